/- A value laid at a path, as the specification says it: what lies where. -/
import Derived.Test.YtebmjefimbcefaaGreatDoorUa
import Derived.Test.YtebmjefimbcefaaGreatDoorJa
import Derived.Test.YtebmjefimbcefaaGreatDoorJb
import Derived.Test.YtebmjefimbcefaaGreatDoorJd
import Derived.Deep.CutRange
namespace Go.Proofs.YtebmjefimbcefaaGreatDoor
open Go.RowKit
mutual
theorem lies_inn {w : World} {B : Nat} {P : Nat → Prop} (hP : ∀ b, b < B → P b) : ∀ (x : V) {A c K d}, Lies w B x A c K d → LiesIn P w x A c K d
  | .mk _ _ _ items _, _, _, _, _, h => by
    obtain ⟨h1, h2, h3, h4, h5⟩ := h
    refine ⟨h1, h2, h3, ⟨h4.1, h4.2.1, h4.2.2.imp id fun ⟨b, o, hA, hb, hf⟩ => ⟨b, o, hA, hP b hb, hf⟩⟩, h5.imp id ?_⟩
    rintro ⟨b, o, hA, hb, hf⟩
    exact ⟨b, o, hA, hP b hb, liesFrom_inn hP items hf⟩
theorem liesFrom_inn {w : World} {B : Nat} {P : Nat → Prop} (hP : ∀ b, b < B → P b) : ∀ (l : List V) {b o}, LiesFrom w B l b o → LiesFromIn P w l b o
  | [], _, _, _ => trivial
  | x :: r, b, o, h => by
    obtain ⟨⟨A, c, K, d, e0, e1, e2, e3, e4, hx⟩, hr⟩ := h
    exact ⟨⟨A, c, K, d, e0, e1, e2, e3, e4, lies_inn hP x hx⟩, liesFrom_inn hP r hr⟩
end
/-- The rows of items that lie one behind another. -/
theorem from_rows {P : Nat → Prop} {w : World} : ∀ {l : List V} {b o : Nat}, LiesFromIn P w l b o → ∃ css, RowsIn P w l css ∧ ∀ j u, css.flatten[j]? = some u → w.cell? ⟨b, o + j, none⟩ = some u
  | [], b, o, _ => ⟨[], trivial, fun j u h => by simp at h⟩
  | x :: r, b, o, h => by
    obtain ⟨⟨A, c, K, d, e0, e1, e2, e3, e4, hx⟩, hr⟩ := h
    obtain ⟨css, h1, h2⟩ := from_rows hr
    refine ⟨fieldsL x A c K d :: css, ⟨⟨A, c, K, d, rfl, hx⟩, h1⟩, fun j u hj => ?_⟩
    rw [List.flatten_cons] at hj
    match j, hj with
    | 0, hj => simp [fieldsL] at hj; subst hj; exact e0
    | 1, hj => simp [fieldsL] at hj; subst hj; exact e1
    | 2, hj => simp [fieldsL] at hj; subst hj; exact e2
    | 3, hj => simp [fieldsL] at hj; subst hj; exact e3
    | 4, hj => simp [fieldsL] at hj; subst hj; exact e4
    | j + 5, hj =>
      rw [List.getElem?_append_right (by simp [fieldsL])] at hj
      have := h2 j u (by simpa [fieldsL] using hj)
      rw [show o + (j + 5) = o + 5 + j by omega]; exact this
theorem one_cell {P : Nat → Prop} {w : World} : ∀ {l : List V} {css : List (List Value)}, RowsIn P w l css → ∀ u ∈ css.flatten, u.oneCell' = true
  | [], [], _, u, hu => by simp at hu
  | [], _ :: _, h, _, _ => h.elim
  | _ :: _, [], h, _, _ => h.elim
  | x :: r, cs :: css, h, u, hu => by
    rw [List.flatten_cons, List.mem_append] at hu
    rcases hu with hu | hu
    · obtain ⟨A, c, K, d, rfl, -⟩ := h.1
      simp only [fieldsL, List.mem_cons, List.not_mem_nil, or_false] at hu
      rcases hu with rfl | rfl | rfl | rfl | rfl <;> rfl
    · exact one_cell h.2 u hu
/-- A part of a row, wherever it lies, appended to an owned row. -/
theorem appendR (ty : TypeId) (W : World) (B : Nat) (v : Value) (k : Nat) (xs : List Value) (hown : W.ownsRow B 27 5 v k xs) (A : Option Addr) (m c : Nat) (news : List Value) (hl : news.length = m * 5) (hA : m = 0 ∨ ∃ a, A = some a ∧ ∀ j u, news[j]? = some u → W.cell? (a.add j) = some u) (h1 : ∀ u ∈ news, u.oneCell' = true) (hk : k + m ≤ 100000) (hB : B ≤ W.heap.size) :
    ∃ v' W', (Builtin.append_ #[24, 24] ty #[v, .slice A m c]).run Tryz.prog W = .ok v' W' ∧ W'.ownsRow B 27 5 v' (k + m) (xs ++ news) ∧ W.grownBy W' v.ownBlock := by
  obtain ⟨i0, hi, hz0, hz1, hz2⟩ := info_parts (P := Tryz.prog) (e := 27) (z := (.agg zeroF)) (size := 5) (bytes := 80) (by kernel_rfl)
  rcases Nat.eq_zero_or_pos m with rfl | hm
  · obtain rfl : news = [] := List.length_eq_zero_iff.1 (by omega)
    obtain ⟨a0, cap, rfl⟩ := own_form hown
    have hcap : k ≤ cap := by
      obtain ⟨_, ⟨he, h0⟩ | ⟨g, cap', cur, he, _, _, h1, _⟩⟩ := hown
      · simp only [Value.slice.injEq] at he; omega
      · simp only [Value.slice.injEq] at he; omega
    have hs : Src Tryz.prog i0.size 24 (.slice A 0 c) 0 [] W := by
      cases A with
      | none => exact Src.ofNil _ Tryz.underlying24 c
      | some a => exact Src.ofSlice W Tryz.underlying24 a 0 c [] (by simp) (fun j u hj => by simp at hj) (fun u hu => by cases hu)
    exact ⟨_, W, run_append_nothing (P := Tryz.prog) W 24 24 ty 27 i0 Tryz.underlying24 hi a0 k cap hcap _ hs, by simpa using hown, ⟨rfl, rfl, rfl, Nat.le_refl _, fun _ _ _ => rfl⟩⟩
  · obtain ⟨a, rfl, hnews⟩ : ∃ a, A = some a ∧ ∀ j u, news[j]? = some u → W.cell? (a.add j) = some u := hA.resolve_left (by omega)
    obtain ⟨v', W', hr, h2, h3, -⟩ := append_where (P := Tryz.prog) W B 24 ty 27 i0 (.agg zeroF) 5 80 Tryz.underlying24 hi hz0 hz1 hz2 rfl (by omega) v k xs hown a m c news hl hnews h1 (by unfold maxLen; omega) (by omega) hB hm
    exact ⟨v', W', hr, h2, h3⟩
theorem own_empty (W : World) (B : Nat) (hB : B ≤ W.heap.size) (e : TypeId) : (W.alloc (.cells #[] e)).ownsRow B e 5 (.slice (some ⟨W.heap.size, 0, none⟩) 0 0) 0 [] :=
  ⟨rfl, .inr ⟨W.heap.size, 0, #[], rfl, hB, BlockIs.new W e #[], Nat.le_refl _, by simp [maxLen], rfl, rfl⟩⟩
/-- A list that was made behind a world. -/
def Made (P : Nat → Prop) (W W' : World) (v : Value) (l : List V) : Prop :=
  ∃ A c, v = .slice A l.length c ∧ l.length ≤ c ∧ c ≤ maxLen ∧ (l = [] ∨ ∃ b o, A = some ⟨b, o, none⟩ ∧ (P b ∨ Fresh W W' b) ∧ LiesFromIn (fun b => P b ∨ Fresh W W' b) W' l b o)
theorem Made.of {P : Nat → Prop} {W W' : World} {v : Value} {l : List V} {css : List (List Value)} (ho : W'.ownsRow W.heap.size 27 5 v l.length css.flatten) (hr : RowsIn P W' l css) : Made P W W' v l := by
  obtain ⟨A, c, rfl, h1, h2, h3⟩ := rows_lie (P := fun b => P b ∨ Fresh W W' b) (RowsIn.keep (fun _ _ _ => rfl) (fun b hb => .inl hb) hr) ho (fun b hb => .inr (World.ownsRow.lt ho b hb))
  exact ⟨A, c, rfl, h1, h2, h3⟩
theorem Made.lies {P : Nat → Prop} {W W' : World} {v : Value} {l : List V} (h : Made P W W' v l) : ∃ A c, v = .slice A l.length c ∧ LiesIn (fun b => P b ∨ Fresh W W' b) W' (.mk 4 0 ⟨#[]⟩ l []) A c none 0 := by
  obtain ⟨A, c, rfl, h1, h2, h3⟩ := h
  exact ⟨A, c, rfl, by decide, h1, h2, ⟨Nat.le_refl _, by simp [maxLen], .inl rfl⟩, h3⟩
theorem none_below {W W' : World} {v : Value} (h : W.grownBy W' v.ownBlock) {B : Nat} (hB : B ≤ W.heap.size) (hv : ∀ b, v.ownBlock = some b → B ≤ b) : Below B W W' := below_grow h hB hv
/-- The three appends that lay an item into a list. -/
theorem putL (W : World) (B : Nat) (P : Nat → Prop) (hP : ∀ b, b < B → P b) (hPW : ∀ b, P b → b < W.heap.size) (L : List V) (y : V) (A4 : Option Addr) (c4 : Nat) (A6 K6 : Option Addr) (c6 d6 : Nat) (hL : LiesL W B A4 c4 L) (hy : LiesIn P W y A6 c6 K6 d6) (n : Nat) (hn : n ≤ L.length) (hlen : L.length ≤ 10000) :
    ∃ v1 W1 v2 W2, (Builtin.append_ #[24, 24] 24 #[.slice (some ⟨W.heap.size, 0, none⟩) 0 0, .slice A4 n c4]).run Tryz.prog (W.alloc (.cells #[] 27)) = .ok v1 W1 ∧
      (Builtin.append_ #[24, 24] 24 #[v1, .slice (some ⟨W1.heap.size, 0, none⟩) 1 1]).run Tryz.prog (W1.alloc (.cells #[.int .i64 y.kind, .int .i64 y.int, .string y.text, .slice A6 y.items.length c6, .slice K6 y.keys.length d6] 27)) = .ok v2 W2 ∧
      (∃ A c, v1 = .slice A n c) ∧ (∃ A c, v2 = .slice A (n + 1) c) ∧ Below W.heap.size W W1 ∧ Below W.heap.size W W2 ∧ (n = L.length → Made P W W2 v2 (L.take n ++ y :: L.drop (n + 1))) ∧
      (n < L.length → ∀ a, (L.length - (n + 1) = 0 ∨ ∃ b o, A4 = some ⟨b, o, none⟩ ∧ a = some ⟨b, o + (n + 1) * 5, none⟩) → ∃ v3 W3, (Builtin.append_ #[24, 24] 24 #[v2, .slice a (L.length - (n + 1)) (c4 - (n + 1))]).run Tryz.prog W2 = .ok v3 W3 ∧ (∃ A c, v3 = .slice A L.length c) ∧ Below W.heap.size W W3 ∧ Made P W W3 v3 (L.take n ++ y :: L.drop (n + 1))) := by
  obtain ⟨hL1, hL2, hL3⟩ := hL
  obtain ⟨css, hr, hc⟩ : ∃ css, RowsIn P W L css ∧ (L = [] ∨ ∃ b o, A4 = some ⟨b, o, none⟩ ∧ b < B ∧ ∀ j u, css.flatten[j]? = some u → W.cell? ⟨b, o + j, none⟩ = some u) := by
    rcases hL3 with rfl | ⟨b, o, rfl, hb, hf⟩
    · exact ⟨[], trivial, .inl rfl⟩
    · obtain ⟨css, h1, h2⟩ := from_rows (liesFrom_inn hP L hf)
      exact ⟨css, h1, .inr ⟨b, o, rfl, hb, h2⟩⟩
  have hfl := RowsIn.flat hr
  have hBW : ∀ b, b < B → b < W.heap.size := fun b hb => hPW b (hP b hb)
  have hone := one_cell hr
  obtain ⟨ht1, ht2⟩ := RowsIn.flat_take n hr
  have hcl := hr.length
  -- the first
  have hb0 : Below W.heap.size W (W.alloc (.cells #[] 27)) := below_al (Below.refl _ W) _
  obtain ⟨v1, W1, hr1, ho1, hg1⟩ := appendR 24 (W.alloc (.cells #[] 27)) W.heap.size (.slice (some ⟨W.heap.size, 0, none⟩) 0 0) 0 [] (own_empty W _ (Nat.le_refl _) _) A4 n c4 (css.take n).flatten (by rw [ht1, List.length_take]; omega) (by
    rcases hc with rfl | ⟨b, o, rfl, hb, h⟩
    · exact .inl (by simpa using hn)
    · refine .inr ⟨_, rfl, fun j u hj => ?_⟩
      rw [ht1] at hj
      have hlt := (List.getElem?_eq_some_iff.1 hj).1
      rw [List.length_take] at hlt
      rw [List.getElem?_take_of_lt (by omega)] at hj
      rw [Addr.add_lit]
      exact (bcell hb0 b (o + j) (hBW b hb)).trans (h j u hj)) (fun u hu => hone u (by rw [ht1] at hu; exact List.mem_of_mem_take hu)) (by omega) (by simp)
  rw [Nat.zero_add, List.nil_append] at ho1
  have hb1 : Below W.heap.size W W1 := hb0.trans (below_grow hg1 (by simp) (fun b hb => by simp [Value.ownBlock] at hb; omega))
  have hs1 := hb1.size
  -- the second
  have hb1a := below_al (Below.refl _ W1) (.cells #[.int .i64 y.kind, .int .i64 y.int, .string y.text, .slice A6 y.items.length c6, .slice K6 y.keys.length d6] 27)
  have ho1a := World.ownsRow.kept ho1 (grown_none hb1a) (by cases v1.ownBlock; exact .inl rfl; exact .inr (by simp))
  have hnew := BlockIs.new W1 27 #[.int .i64 y.kind, .int .i64 y.int, .string y.text, .slice A6 y.items.length c6, .slice K6 y.keys.length d6]
  obtain ⟨v2, W2, hr2, ho2, hg2⟩ := appendR 24 _ W.heap.size v1 n _ ho1a (some ⟨W1.heap.size, 0, none⟩) 1 1 (fieldsL y A6 c6 K6 d6) rfl (.inr ⟨_, rfl, fun j u hj => by
    rw [Addr.add_lit, Nat.zero_add, hnew.cell j]
    rw [← hj]; simp [fieldsL]⟩) (fun u hu => by simp only [fieldsL, List.mem_cons, List.not_mem_nil, or_false] at hu; rcases hu with rfl | rfl | rfl | rfl | rfl <;> rfl) (by omega) (by simp; omega)
  have hb2 : Below W.heap.size W W2 := hb1.trans ((hb1a.mono hs1).trans (below_grow hg2 (by simp; omega) (fun b hb => (World.ownsRow.lt ho1 b hb).1)))
  have hkeep : ∀ W', Below W.heap.size W W' → ∀ b o, P b → W'.cell? ⟨b, o, none⟩ = W.cell? ⟨b, o, none⟩ := fun W' h b o hb => bcell h b o (hPW b hb)
  have hyW : ∀ W', Below W.heap.size W W' → RowIn P W' y (fieldsL y A6 c6 K6 d6) := fun W' h => ⟨A6, c6, K6, d6, rfl, LiesIn.keep (hkeep W' h) (fun _ h => h) y hy⟩
  refine ⟨v1, W1, v2, W2, hr1, hr2, own_form ho1, own_form ho2, hb1, hb2, fun e => ?_, fun hlt a ha => ?_⟩
  · have hd : L.drop (n + 1) = [] := List.drop_eq_nil_of_le (by omega)
    rw [hd]
    refine Made.of (css := css.take n ++ [fieldsL y A6 c6 K6 d6]) ?_ ?_
    · rw [List.flatten_append, show (L.take n ++ [y]).length = n + 1 by rw [List.length_append, List.length_take]; simp; omega]
      simpa using ho2
    · exact RowsIn.append (ys := [y]) (dss := [fieldsL y A6 c6 K6 d6]) ⟨hyW W2 hb2, trivial⟩ ((hr.take n).keep (hkeep W2 hb2) fun _ h => h)
  · have hlen2 : (css.drop (n + 1)).flatten.length = (L.length - (n + 1)) * 5 := by
      have := RowsIn.flat (hr.drop (n + 1)); rw [this, List.length_drop]
    obtain ⟨v3, W3, hr3, ho3, hg3⟩ := appendR 24 W2 W.heap.size v2 (n + 1) _ ho2 a (L.length - (n + 1)) (c4 - (n + 1)) (css.drop (n + 1)).flatten hlen2 (by
      rcases ha with ha | ⟨b, o, e1, rfl⟩
      · exact .inl ha
      · refine .inr ⟨_, rfl, fun j u hj => ?_⟩
        rcases hc with rfl | ⟨b', o', e2, hb, h⟩
        · simp at hlt
        · rw [e1] at e2
          simp only [Option.some.injEq, Addr.mk.injEq] at e2
          obtain ⟨rfl, rfl, -⟩ := e2
          rw [(RowsIn.flat_take (n + 1) hr).2, List.getElem?_drop] at hj
          rw [Addr.add_lit, show o + (n + 1) * 5 + j = o + ((n + 1) * 5 + j) by omega]
          exact (bcell hb2 b _ (hBW b hb)).trans (h _ u hj)) (fun u hu => hone u (by rw [(RowsIn.flat_take (n + 1) hr).2] at hu; exact List.mem_of_mem_drop hu)) (by omega) (by have := hb2.size; omega)
    have hb3 : Below W.heap.size W W3 := hb2.trans (below_grow hg3 hb2.size (fun b hb => (World.ownsRow.lt ho2 b hb).1))
    have hall : n + 1 + (L.length - (n + 1)) = L.length := by omega
    rw [hall] at ho3
    refine ⟨v3, W3, hr3, own_form ho3, hb3, Made.of (css := css.take n ++ fieldsL y A6 c6 K6 d6 :: css.drop (n + 1)) ?_ ?_⟩
    · rw [List.flatten_append, List.flatten_cons, show (L.take n ++ y :: L.drop (n + 1)).length = L.length by rw [List.length_append, List.length_cons, List.length_take, List.length_drop]; omega]
      simpa using ho3
    · exact RowsIn.append (ys := y :: L.drop (n + 1)) (dss := fieldsL y A6 c6 K6 d6 :: css.drop (n + 1)) ⟨hyW W3 hb3, (hr.drop (n + 1)).keep (hkeep W3 hb3) fun _ h => h⟩ ((hr.take n).keep (hkeep W3 hb3) fun _ h => h)
/-- What the specification's put leaves: what is answered hangs on what was there and on what is new. -/
def RefP (B : Nat) (q : V × Int) (w : World) (e : Ending) (w' : World) : Prop :=
  ∃ A c K d, e = .returned (.tuple #[aggOf q.1 A c K d, .int .i64 q.2]) ∧ LiesIn (fun b => b < B ∨ Fresh w w' b) w' q.1 A c K d ∧ Below w.heap.size w w'
/-- Its boxes: the value, what is laid, what is answered, the step. -/
structure QB (w : World) (vc xc : Array Value) (i : Int) (k : ByteArray) (W : World) : Prop where
  old : Below w.heap.size w W
  bv : BlockIs W w.heap.size 27 vc
  bx : BlockIs W (w.heap.size + 1) 27 xc
  br : BlockIs W (w.heap.size + 2) 27 zeroF
  bs : BlockIs W (w.heap.size + 3) 35 #[.int .i64 i, .string k]
section
variable {w W W' : World} {vc xc : Array Value} {i : Int} {k : ByteArray} {B : Nat} {a b c d e u0 u1 u2 u3 u4 : Value} {y : V} {A K : Option Addr} {m q : Nat}
theorem QB.start (w : World) (vc xc : Array Value) (i : Int) (k : ByteArray) : QB w vc xc i k ((((w.alloc (.cells vc 27)).alloc (.cells xc 27)).alloc (.cells zeroF 27)).alloc (.cells #[.int .i64 i, .string k] 35)) :=
  ⟨below_al (below_al (below_al (below_al (Below.refl _ w) _) _) _) _, (((BlockIs.new w _ _).alloc _).alloc _).alloc _, ((BlockIs.newAt _ _ _ (by simp)).alloc _).alloc _, (BlockIs.newAt _ _ _ (by simp)).alloc _, BlockIs.newAt _ _ _ (by simp)⟩
theorem QB.on (h : QB w vc xc i k W) (hb : Below W.heap.size W W') : QB w vc xc i k W' := ⟨below_on h.old hb, h.bv.below hb h.bv.lt, h.bx.below hb h.bx.lt, h.br.below hb h.br.lt, h.bs.below hb h.bs.lt⟩
theorem QB.setv (h : QB w #[a, b, c, d, e] xc i k W) : QB w #[u0, u1, u2, u3, u4] xc i k (put5 W w.heap.size 0 u0 u1 u2 u3 u4) := by
  have hh := fun g (hg : g ≠ w.heap.size) => put5_heap W w.heap.size 0 u0 u1 u2 u3 u4 hg
  refine ⟨((((h.old.setCell (by simp) _).setCell (by simp) _).setCell (by simp) _).setCell (by simp) _).setCell (by simp) _, ?_, h.bx.to (hh _ (by omega)), h.br.to (hh _ (by omega)), h.bs.to (hh _ (by omega))⟩
  have := ((((h.bv.set_ 0 u0).set_ 1 u1).set_ 2 u2).set_ 3 u3).set_ 4 u4
  simpa [put5] using this
theorem QB.ends (h : QB w vc xc i k W) : Below w.heap.size w (put5 W (w.heap.size + 2) 0 u0 u1 u2 u3 u4) :=
  ((((h.old.setCell (by simp) _).setCell (by simp) _).setCell (by simp) _).setCell (by simp) _).setCell (by simp) _
theorem QB.size (h : QB w vc xc i k W) : w.heap.size + 4 ≤ W.heap.size := by have := h.bs.lt; omega
theorem QB.bad (h : QB w vc xc i k W) (r : Int) : RefP B (nullV, r) w (.returned (.tuple #[aggOf (leaf 0 0 ⟨#[]⟩) none 0 none 0, .int .i64 r])) (put5 W (w.heap.size + 2) 0 u0 u1 u2 u3 u4) :=
  ⟨none, 0, none, 0, rfl, lies_leaf _ _ 0 0 _ (by decide), h.ends⟩
/-- What was made behind the boxes, answered. -/
theorem QB.good (h : QB w vc xc i k W) (hB : B ≤ w.heap.size) (hl : LiesIn (fun b => b < B ∨ (w.heap.size + 4 ≤ b ∧ b < W.heap.size)) W y A m K q) : RefP B (y, 0) w (.returned (.tuple #[aggOf y A m K q, .int .i64 0])) (put5 W (w.heap.size + 2) 0 u0 u1 u2 u3 u4) := by
  have hs := put5_size W (w.heap.size + 2) 0 u0 u1 u2 u3 u4
  refine ⟨A, m, K, q, rfl, LiesIn.keep (fun b o hb => World.cell?_of_block (put5_heap W (w.heap.size + 2) 0 u0 u1 u2 u3 u4 ?_)) (fun b hb => hb.imp id fun hb => ⟨by omega, by rw [hs]; exact hb.2⟩) _ hl, h.ends⟩
  rcases (show b < B ∨ _ from hb) with hb | hb
  · show b ≠ w.heap.size + 2; omega
  · have := hb.1; show b ≠ w.heap.size + 2; omega
end
/-- Where it stands behind the inner put. -/
structure QC (B : Nat) (w : World) (vc xc : Array Value) (i : Int) (k : ByteArray) (g : Nat) (y : V) (A : Option Addr) (c : Nat) (K : Option Addr) (d : Nat) (y0 : V) (A4 : Option Addr) (c4 : Nat) (K4 : Option Addr) (d4 : Nat) (W : World) : Prop where
  qb : QB w vc xc i k W
  box : BlockIs W g 27 #[.int .i64 y.kind, .int .i64 y.int, .string y.text, .slice A y.items.length c, .slice K y.keys.length d]
  ly : LiesIn (fun b => b < B ∨ (w.heap.size + 4 ≤ b ∧ b < W.heap.size)) W y A c K d
  l0 : Lies W B y0 A4 c4 K4 d4
section
variable {B i' : Nat} {w w6 W5 : World} {vc xc : Array Value} {i : Int} {k : ByteArray} {y y0 : V} {A K A4 K4 : Option Addr} {c d c4 d4 : Nat}
theorem QC.after (h5 : QB w vc xc i k W5) (hB : B ≤ w.heap.size) (h0 : Lies W5 B y0 A4 c4 K4 d4) (h : LiesIn (fun b => b < B ∨ Fresh W5.drew w6 b) w6 y A c K d ∧ Below W5.drew.heap.size W5.drew w6) :
    QC B w vc xc i k w6.heap.size y A c K d y0 A4 c4 K4 d4 (w6.alloc (.cells #[.int .i64 y.kind, .int .i64 y.int, .string y.text, .slice A y.items.length c, .slice K y.keys.length d] 27)) := by
  obtain ⟨hl, h6⟩ := h
  have hb : Below W5.heap.size W5 w6 := ⟨h6.os, h6.tape, h6.output, h6.size, h6.block⟩
  have hs := h5.size
  have h6s := hb.size
  refine ⟨(h5.on hb).on (below_al (Below.refl _ w6) _), BlockIs.new w6 _ _, LiesIn.keep (fun b o hlt => World.cell?_alloc_lt _ _ _ ?_) (fun b hb => hb.imp id fun hb => ⟨?_, ?_⟩) _ hl, h0.keep (fun b o hlt => bcell (below_al hb _) b o (by omega)) (Nat.le_refl _) y0⟩
  · show b < w6.heap.size
    rcases (show b < B ∨ Fresh W5.drew w6 b from hlt) with h | h
    · omega
    · exact h.2
  · have := hb.1; have e : W5.drew.heap.size = W5.heap.size := rfl; omega
  · have := hb.2; simp; omega
theorem QC.ahead (h5 : QB w vc xc i k W5) (hB : B ≤ w.heap.size) (h0 : Lies W5 B y0 A4 c4 K4 d4) (h : LiesIn (fun b => b < B ∨ Fresh (W5.drew.alloc (.cells zeroF 27)) w6 b) w6 y A c K d ∧ Below (W5.drew.alloc (.cells zeroF 27)).heap.size (W5.drew.alloc (.cells zeroF 27)) w6) :
    QC B w vc xc i k W5.heap.size y A c K d y0 A4 c4 K4 d4 (put5 w6 W5.heap.size 0 (.int .i64 y.kind) (.int .i64 y.int) (.string y.text) (.slice A y.items.length c) (.slice K y.keys.length d)) := by
  obtain ⟨hl, h6⟩ := h
  have hb1 : Below W5.heap.size W5 (W5.drew.alloc (.cells zeroF 27)) := below_al (Below.refl _ W5).drew _
  have hz1 : (W5.drew.alloc (.cells zeroF 27)).heap.size = W5.heap.size + 1 := by simp
  have hb : Below W5.heap.size W5 w6 := hb1.trans (h6.mono (by omega))
  have hs := h5.size
  have h6s := h6.size
  have hbox : BlockIs w6 W5.heap.size 27 zeroF := (show BlockIs (W5.drew.alloc (.cells zeroF 27)) W5.heap.size 27 zeroF from BlockIs.new W5.drew _ _).below h6 (by omega)
  have hp : Below W5.heap.size W5 (put5 w6 W5.heap.size 0 (.int .i64 y.kind) (.int .i64 y.int) (.string y.text) (.slice A y.items.length c) (.slice K y.keys.length d)) := below_put5 hb (Nat.le_refl _) _ _ _ _ _
  refine ⟨h5.on hp, ?_, LiesIn.keep (fun b o hlt => World.cell?_of_block (put5_heap _ _ _ _ _ _ _ _ ?_)) (fun b hb => hb.imp id fun hb => ⟨?_, ?_⟩) _ hl, h0.keep (fun b o hlt => bcell hp b o (by omega)) (Nat.le_refl _) y0⟩
  · have := ((((hbox.set_ 0 (.int .i64 y.kind)).set_ 1 (.int .i64 y.int)).set_ 2 (.string y.text)).set_ 3 (.slice A y.items.length c)).set_ 4 (.slice K y.keys.length d)
    simpa [put5, zeroF] using this
  · show b ≠ W5.heap.size
    rcases (show b < B ∨ Fresh _ w6 b from hlt) with h | h
    · omega
    · have := h.1; omega
  · have := hb.1; omega
  · rw [put5_size]; exact hb.2
end
/-- Another error from within. -/
theorem QC.bad {B g : Nat} {w W : World} {vc xc : Array Value} {i : Int} {k : ByteArray} {y y0 : V} {A K A4 K4 : Option Addr} {c d c4 d4 : Nat} {u0 u1 u2 u3 u4 : Value} (h : QC B w vc xc i k g y A c K d y0 A4 c4 K4 d4 W) (r : Int) :
    RefP B (nullV, r) w (.returned (.tuple #[aggOf (leaf 0 0 ⟨#[]⟩) none 0 none 0, .int .i64 r])) (put5 W (w.heap.size + 2) 0 u0 u1 u2 u3 u4) := h.qb.bad r
theorem RefP.end_ {B : Nat} {z : V} {w w' : World} {A K : Option Addr} {c d : Nat} (h : Lies w B z A c K d) (hB : B ≤ w.heap.size) (hb : Below w.heap.size w w') : RefP B (z, 0) w (.returned (.tuple #[aggOf z A c K d, .int .i64 0])) w' :=
  ⟨A, c, K, d, rfl, lies_inn (fun b hb => .inl hb) z (Lies.keep (fun b o hlt => bcell hb b o (by omega)) (Nat.le_refl _) z h), hb⟩
theorem QB.goodL {w W : World} {vc xc : Array Value} {i : Int} {k : ByteArray} {B n m : Nat} {u0 u1 u2 u3 u4 : Value} {l : List V} {A : Option Addr} (h : QB w vc xc i k W) (hB : B ≤ w.heap.size) (hn : l.length = n) (hl : LiesIn (fun b => b < B ∨ (w.heap.size + 4 ≤ b ∧ b < W.heap.size)) W (.mk 4 0 ⟨#[]⟩ l []) A m none 0) :
    RefP B (.mk 4 0 ⟨#[]⟩ l [], 0) w (.returned (.tuple #[.agg #[.int .i64 4, .int .i64 0, .string ⟨#[]⟩, .slice A n m, .slice none 0 0], .int .i64 0])) (put5 W (w.heap.size + 2) 0 u0 u1 u2 u3 u4) := by
  subst hn
  exact h.good hB hl
theorem kindV_ok {x : V} (h : x.ok = true) (s : Stp) (_hs : (kindV x s).kind = holderS s) : (kindV x s).ok = true := by
  unfold kindV
  split
  · rename_i h0
    rw [null_of h h0]
    unfold holderS
    split
    · exact (by decide : (V.mk 5 0 ⟨#[]⟩ [] []).ok = true)
    · exact (by decide : (V.mk 4 0 ⟨#[]⟩ [] []).ok = true)
  · exact h
theorem kindV_null {x : V} (h : x.ok = true) (h0 : x.kind = 0) (s : Stp) : kindV x s = leaf (holderS s) 0 ⟨#[]⟩ := by
  unfold kindV
  rw [if_pos h0, null_of h h0]
  rfl
/-- An item, or null. -/
theorem item_or (B : Nat) (x : V) (s : Stp) (w : World) (A K : Option Addr) (c d : Nat) (hBw : B ≤ w.heap.size) (h : Lies w B x A c K d) (hok : x.ok = true) :
    Calls Tryz.prog 47 #[aggOf x A c K d, stepV s] w fun e w' => ∃ A c K d b, e = .returned (.tuple #[aggOf ((itemV x s).getD nullV) A c K d, .bool b]) ∧ Lies w' B ((itemV x s).getD nullV) A c K d ∧ Below w.heap.size w w' := by
  refine (item_any B x s w A K c d hBw h hok).mono ?_
  rintro e w' ⟨hb, he⟩
  cases hi : itemV x s with
  | none =>
    rw [hi] at he
    exact ⟨none, 0, none, 0, false, he, leaf_lies _ _ 0 0 (by decide), hb⟩
  | some y =>
    rw [hi] at he
    obtain ⟨A, c, K, d, he, hl⟩ := he
    exact ⟨A, c, K, d, true, he, hl, hb⟩
set_option maxRecDepth 100000 in
set_option maxHeartbeats 1000000 in
theorem refPut_end (B : Nat) (x z : V) (w : World) (A K : Option Addr) (c d : Nat) (Ap : Option Addr) (cp : Nat) (Az Kz : Option Addr) (cz dz : Nat) (hB : B ≤ w.heap.size) (hz : Lies w B z Az cz Kz dz) :
    Calls Tryz.prog 28 #[.agg #[.int .i64 x.kind, .int .i64 x.int, .string x.text, .slice A x.items.length c, .slice K x.keys.length d], .slice Ap 0 cp, .agg #[.int .i64 z.kind, .int .i64 z.int, .string z.text, .slice Az z.items.length cz, .slice Kz z.keys.length dz]] w (RefP B (putR x [] z) w) := by
  have HZ := Lib.hid hz
  have HB := Lib.hid hB
  rw [show putR x [] z = (z, 0) by simp [putR, putV]]
  clear hz hB
  go_enter Tryz.func28, Tryz.ntmps28
  go_wp2_with fail
  refine bodyPost_ret (v := .tuple #[aggOf z Az cz Kz dz, .int .i64 0]) (by simp [results, Tryz.results28, go_sem, aggOf]) rfl ?_
  exact RefP.end_ HZ.out HB.out (below_al (below_al (below_al (Below.refl _ w) _) _) _)
open Go.RowKit
/-- A part of a row appended to an owned row, and where the new row lies. -/
theorem appendW (ty : TypeId) (W : World) (B : Nat) (v : Value) (k : Nat) (xs : List Value) (hown : W.ownsRow B 27 5 v k xs) (a : Addr) (m c : Nat) (news : List Value) (hl : news.length = m * 5) (hA : ∀ j u, news[j]? = some u → W.cell? (a.add j) = some u) (h1 : ∀ u ∈ news, u.oneCell' = true) (hk : k + m ≤ 100000) (hB : B ≤ W.heap.size) (hm : 0 < m) :
    ∃ v' W', (Builtin.append_ #[24, 24] ty #[v, .slice (some a) m c]).run Tryz.prog W = .ok v' W' ∧ W'.ownsRow B 27 5 v' (k + m) (xs ++ news) ∧ W.grownBy W' v.ownBlock ∧ (v'.ownBlock = v.ownBlock ∨ ∃ n c, v' = .slice (some ⟨W.heap.size, 0, none⟩) n c) := by
  obtain ⟨i0, hi, hz0, hz1, hz2⟩ := info_parts (P := Tryz.prog) (e := 27) (z := (.agg zeroF)) (size := 5) (bytes := 80) (by kernel_rfl)
  exact append_where (P := Tryz.prog) W B 24 ty 27 i0 (.agg zeroF) 5 80 Tryz.underlying24 hi hz0 hz1 hz2 rfl (by omega) v k xs hown a m c news hl hA h1 (by unfold maxLen; omega) (by omega) hB hm
theorem appendKW (ty : TypeId) (W : World) (B : Nat) (v : Value) (k : Nat) (xs : List Value) (hown : W.ownsRow B 9 1 v k xs) (a : Addr) (m c : Nat) (news : List Value) (hl : news.length = m * 1) (hA : ∀ j u, news[j]? = some u → W.cell? (a.add j) = some u) (h1 : ∀ u ∈ news, u.oneCell' = true) (hk : k + m ≤ 100000) (hB : B ≤ W.heap.size) (hm : 0 < m) :
    ∃ v' W', (Builtin.append_ #[25, 25] ty #[v, .slice (some a) m c]).run Tryz.prog W = .ok v' W' ∧ W'.ownsRow B 9 1 v' (k + m) (xs ++ news) ∧ W.grownBy W' v.ownBlock ∧ (v'.ownBlock = v.ownBlock ∨ ∃ n c, v' = .slice (some ⟨W.heap.size, 0, none⟩) n c) := by
  obtain ⟨i0, hi, hz0, hz1, hz2⟩ := info_parts (P := Tryz.prog) (e := 9) (z := (.string ⟨#[]⟩)) (size := 1) (bytes := 16) (by kernel_rfl)
  exact append_where (P := Tryz.prog) W B 25 ty 9 i0 (.string ⟨#[]⟩) 1 16 Tryz.underlying25 hi hz0 hz1 hz2 rfl (by omega) v k xs hown a m c news hl hA h1 (by unfold maxLen; omega) (by omega) hB hm
/-- The blocks that what was collected hangs on: elder ones, and the call's own, but the rows'. -/
def PO (w : World) (B : Nat) (rI rK : Value) (W : World) (b : Nat) : Prop := b < B ∨ (w.heap.size + 3 ≤ b ∧ b < W.heap.size ∧ some b ≠ rI.ownBlock ∧ some b ≠ rK.ownBlock)
/-- How far a value is copied. -/
structure WO (w : World) (B : Nat) (vc : Array Value) (kd : Int) (accI : List V) (accK : List ByteArray) (rI rK : Value) (css : List (List Value)) (W : World) : Prop where
  old : Below w.heap.size w W
  bv : BlockIs W w.heap.size 27 vc
  br : BlockIs W (w.heap.size + 1) 27 zeroF
  bo : BlockIs W (w.heap.size + 2) 27 #[.int .i64 kd, .int .i64 0, .string ⟨#[]⟩, rI, rK]
  items : W.ownsRow (w.heap.size + 3) 27 5 rI accI.length css.flatten
  keys : W.ownsRow (w.heap.size + 3) 9 1 rK accK.length (accK.map Value.string)
  rows : RowsIn (PO w B rI rK W) W accI css
  sizes : ∀ k ∈ accK, k.size ≤ maxLen
section
variable {w W W' w1 : World} {B : Nat} {vc : Array Value} {kd : Int} {accI : List V} {accK : List ByteArray} {rI rK v' : Value} {css : List (List Value)} {y : V} {A K : Option Addr} {c d : Nat} {u0 u1 u2 u3 u4 : Value}
theorem WO.start (w : World) (B : Nat) (vc : Array Value) (kd : Int) : WO w B vc kd [] [] (.slice none 0 0) (.slice none 0 0) [] (((w.alloc (.cells vc 27)).alloc (.cells zeroF 27)).alloc (.cells #[.int .i64 kd, .int .i64 0, .string ⟨#[]⟩, .slice none 0 0, .slice none 0 0] 27)) :=
  ⟨below_al (below_al (below_al (Below.refl _ w) _) _) _, ((BlockIs.new w _ _).alloc _).alloc _, (BlockIs.newAt _ _ _ (by simp)).alloc _, BlockIs.newAt _ _ _ (by simp), World.ownsRow_nil _ _ _ _, World.ownsRow_nil _ _ _ _, trivial, by simp⟩
theorem WO.lt (h : WO w B vc kd accI accK rI rK css W) : w.heap.size + 3 ≤ W.heap.size := by have := h.bo.lt; omega
theorem PO.lt (h : WO w B vc kd accI accK rI rK css W) (hB : B ≤ w.heap.size) {b : Nat} (hb : PO w B rI rK W b) : b < W.heap.size := by
  have := h.lt
  rcases hb with h | h
  · omega
  · exact h.2.1
theorem WO.below (h : WO w B vc kd accI accK rI rK css W) (hB : B ≤ w.heap.size) (hb : Below W.heap.size W W') : WO w B vc kd accI accK rI rK css W' := by
  have hs := hb.size
  have hk : ∀ v : Value, v.ownBlock = none ∨ v.ownBlock ≠ (none : Option Nat) := fun v => by cases v.ownBlock <;> simp
  refine ⟨below_on h.old hb, h.bv.below hb h.bv.lt, h.br.below hb h.br.lt, h.bo.below hb h.bo.lt, h.items.kept (grown_none hb) (hk _), h.keys.kept (grown_none hb) (hk _), h.rows.keep (fun b o hx => bcell hb b o (PO.lt h hB hx)) (fun b hx => hx.imp id fun hx => ⟨hx.1, by omega, hx.2.2⟩), h.sizes⟩
/-- An item more. -/
theorem WO.item (h : WO w B vc kd accI accK rI rK css W) (hB : B ≤ w.heap.size) (hy : LiesIn (PO w B rI rK W) W y A c K d) (hlen : accI.length ≤ 10000) :
    ∃ v' W1, (Builtin.append_ #[24, 24] 24 #[rI, .slice (some ⟨W.heap.size, 0, none⟩) 1 1]).run Tryz.prog (W.alloc (.cells #[.int .i64 y.kind, .int .i64 y.int, .string y.text, .slice A y.items.length c, .slice K y.keys.length d] 27)) = .ok v' W1 ∧
      (∃ A c, v' = .slice A (accI.length + 1) c) ∧ (∀ o, W1.cell? ⟨w.heap.size + 2, o, none⟩ = W.cell? ⟨w.heap.size + 2, o, none⟩) ∧ W1.frozen? ⟨w.heap.size + 2, 3, none⟩ = false ∧ w.heap.size + 2 < W1.heap.size ∧ WO w B vc kd (accI ++ [y]) accK v' rK (css ++ [fieldsL y A c K d]) (W1.setCell ⟨w.heap.size + 2, 3, none⟩ v') := by
  have hlt := h.lt
  have hb1a := below_al (Below.refl _ W) (.cells #[.int .i64 y.kind, .int .i64 y.int, .string y.text, .slice A y.items.length c, .slice K y.keys.length d] 27)
  have ha := h.below hB hb1a
  have hnew := BlockIs.new W 27 #[.int .i64 y.kind, .int .i64 y.int, .string y.text, .slice A y.items.length c, .slice K y.keys.length d]
  have hz : (W.alloc (.cells #[.int .i64 y.kind, .int .i64 y.int, .string y.text, .slice A y.items.length c, .slice K y.keys.length d] 27)).heap.size = W.heap.size + 1 := by simp
  obtain ⟨v', W1, hr, ho, hg, hw⟩ := appendW 24 _ (w.heap.size + 3) rI accI.length _ ha.items ⟨W.heap.size, 0, none⟩ 1 1 (fieldsL y A c K d) rfl (fun j u hj => by
    rw [Addr.add_lit, Nat.zero_add, hnew.cell j, ← hj]
    simp [fieldsL]) (fun u hu => by simp only [fieldsL, List.mem_cons, List.not_mem_nil, or_false] at hu; rcases hu with rfl | rfl | rfl | rfl | rfl <;> rfl) (by omega) (by omega) (by omega)
  have hge : ∀ g, g < w.heap.size + 3 → some g ≠ rI.ownBlock := fun g hg => own_ge ha.items hg
  have hs1 := hg.size
  have hB1 : Below w.heap.size w W1 := ha.old.trans (below_grow hg ha.old.size (fun r e => by have := (World.ownsRow.lt ha.items r e).1; omega))
  have hB2 : Below w.heap.size w (W1.setCell ⟨w.heap.size + 2, 3, none⟩ v') := hB1.setCell (by simp) _
  have hapart : v'.ownBlock = none ∨ v'.ownBlock ≠ rK.ownBlock := two_apart ho (ha.keys.kept hg (two_apart ha.keys ha.items (by decide))) (by decide)
  have hold : ∀ b, b < W.heap.size → b ≠ w.heap.size + 2 → some b ≠ rI.ownBlock → (W1.setCell ⟨w.heap.size + 2, 3, none⟩ v').heap[b]? = W.heap[b]? := fun b h1 h2 h3 => by
    rw [Below.heap_setCell _ _ _ _ h2, hg.block b (by omega) h3, Below.heap_alloc _ _ _ h1]
  have hP : ∀ b, PO w B rI rK W b → PO w B v' rK (W1.setCell ⟨w.heap.size + 2, 3, none⟩ v') b := fun b hb => hb.imp id fun hb => ⟨hb.1, by simp; have := hb.2.1; omega, row_where hw hb.2.2.1 (by have := hb.2.1; omega), hb.2.2.2⟩
  have hcell : ∀ b o, PO w B rI rK W b → (W1.setCell ⟨w.heap.size + 2, 3, none⟩ v').cell? ⟨b, o, none⟩ = W.cell? ⟨b, o, none⟩ := fun b o hb => World.cell?_of_block (by
    rcases hb with hb | hb
    · exact hold b (by omega) (by omega) (hge b (by omega))
    · exact hold b hb.2.1 (by have := hb.1; omega) hb.2.2.1)
  refine ⟨v', W1, hr, own_form ho, fun o => ?_, ?_, by omega, hB2, (ha.bv.grown hg (hge _ (by omega))).far (by simp) _, (ha.br.grown hg (hge _ (by omega))).far (by simp) _, ?_, ?_, ?_, ?_, h.sizes⟩
  · exact World.cell?_of_block (show W1.heap[w.heap.size + 2]? = W.heap[w.heap.size + 2]? by rw [hg.block _ (by omega) (hge _ (by omega)), Below.heap_alloc _ _ _ (by omega)])
  · exact (ha.bo.grown hg (hge _ (by omega))).frozen 3
  · have := (ha.bo.grown hg (hge _ (by omega))).set_ 3 v'
    simpa using this
  · have := own_set_far ho ⟨w.heap.size + 2, 3, none⟩ v' (own_ge ho (by simp))
    simpa [List.flatten_append] using this
  · exact own_set_far (ha.keys.kept hg (two_apart ha.keys ha.items (by decide))) _ _ (own_ge ha.keys (by simp))
  · exact RowsIn.append (ys := [y]) (dss := [fieldsL y A c K d]) ⟨⟨A, c, K, d, rfl, LiesIn.keep hcell hP y hy⟩, trivial⟩ (h.rows.keep hcell hP)
/-- A key more. -/
theorem WO.key (h : WO w B vc kd accI accK rI rK css W) (hB : B ≤ w.heap.size) {k : ByteArray} (hks : k.size ≤ maxLen) (hlen : accK.length ≤ 10000) :
    ∃ v' W1, (Builtin.append_ #[25, 25] 25 #[rK, .slice (some ⟨W.heap.size, 0, none⟩) 1 1]).run Tryz.prog (W.alloc (.cells #[.string k] 9)) = .ok v' W1 ∧
      (∃ A c, v' = .slice A (accK.length + 1) c) ∧ W1.frozen? ⟨w.heap.size + 2, 4, none⟩ = false ∧ w.heap.size + 2 < W1.heap.size ∧ (∀ o, W1.cell? ⟨w.heap.size + 2, o, none⟩ = W.cell? ⟨w.heap.size + 2, o, none⟩) ∧ WO w B vc kd accI (accK ++ [k]) rI v' css (W1.setCell ⟨w.heap.size + 2, 4, none⟩ v') := by
  have hlt := h.lt
  have hb1a := below_al (Below.refl _ W) (.cells #[.string k] 9)
  have ha := h.below hB hb1a
  have hnew := BlockIs.new W 9 #[.string k]
  have hz : (W.alloc (.cells #[.string k] 9)).heap.size = W.heap.size + 1 := by simp
  obtain ⟨v', W1, hr, ho, hg, hw⟩ := appendKW 25 _ (w.heap.size + 3) rK accK.length _ ha.keys ⟨W.heap.size, 0, none⟩ 1 1 [.string k] rfl (fun j u hj => by
    rw [Addr.add_lit, Nat.zero_add, hnew.cell j, ← hj]
    simp) (fun u hu => by simp only [List.mem_cons, List.not_mem_nil, or_false] at hu; rw [hu]; rfl) (by omega) (by omega) (by omega)
  have hge : ∀ g, g < w.heap.size + 3 → some g ≠ rK.ownBlock := fun g hg => own_ge ha.keys hg
  have hs1 := hg.size
  have hB1 : Below w.heap.size w W1 := ha.old.trans (below_grow hg ha.old.size (fun r e => by have := (World.ownsRow.lt ha.keys r e).1; omega))
  have hB2 : Below w.heap.size w (W1.setCell ⟨w.heap.size + 2, 4, none⟩ v') := hB1.setCell (by simp) _
  have hold : ∀ b, b < W.heap.size → b ≠ w.heap.size + 2 → some b ≠ rK.ownBlock → (W1.setCell ⟨w.heap.size + 2, 4, none⟩ v').heap[b]? = W.heap[b]? := fun b h1 h2 h3 => by
    rw [Below.heap_setCell _ _ _ _ h2, hg.block b (by omega) h3, Below.heap_alloc _ _ _ h1]
  have hP : ∀ b, PO w B rI rK W b → PO w B rI v' (W1.setCell ⟨w.heap.size + 2, 4, none⟩ v') b := fun b hb => hb.imp id fun hb => ⟨hb.1, by simp; have := hb.2.1; omega, hb.2.2.1, row_where hw hb.2.2.2 (by have := hb.2.1; omega)⟩
  have hcell : ∀ b o, PO w B rI rK W b → (W1.setCell ⟨w.heap.size + 2, 4, none⟩ v').cell? ⟨b, o, none⟩ = W.cell? ⟨b, o, none⟩ := fun b o hb => World.cell?_of_block (by
    rcases hb with hb | hb
    · exact hold b (by omega) (by omega) (hge b (by omega))
    · exact hold b hb.2.1 (by have := hb.1; omega) hb.2.2.2)
  refine ⟨v', W1, hr, own_form ho, (ha.bo.grown hg (hge _ (by omega))).frozen 4, by omega, fun o => ?_, hB2, (ha.bv.grown hg (hge _ (by omega))).far (by simp) _, (ha.br.grown hg (hge _ (by omega))).far (by simp) _, ?_, ?_, ?_, h.rows.keep hcell hP, ?_⟩
  · exact World.cell?_of_block (show W1.heap[w.heap.size + 2]? = W.heap[w.heap.size + 2]? by rw [hg.block _ (by omega) (hge _ (by omega)), Below.heap_alloc _ _ _ (by omega)])
  · have := (ha.bo.grown hg (hge _ (by omega))).set_ 4 v'
    simpa using this
  · exact own_set_far (ha.items.kept hg (two_apart ha.items ha.keys (by decide))) _ _ (own_ge ha.items (by simp))
  · have := own_set_far ho ⟨w.heap.size + 2, 4, none⟩ v' (own_ge ho (by simp))
    simpa using this
  · intro q hq
    rcases List.mem_append.1 hq with hq | hq
    · exact h.sizes q hq
    · rw [List.mem_singleton.1 hq]; exact hks
/-- What was collected, answered. -/
theorem WO.done (h : WO w B vc kd accI accK rI rK css W) (hB : B ≤ w.heap.size) :
    ∃ A c K d, rI = .slice A accI.length c ∧ rK = .slice K accK.length d ∧ LiesIn (fun b => b < B ∨ Fresh w (put5 W (w.heap.size + 1) 0 u0 u1 u2 u3 u4) b) (put5 W (w.heap.size + 1) 0 u0 u1 u2 u3 u4) (.mk kd 0 ⟨#[]⟩ accI accK) A c K d ∧ Below w.heap.size w (put5 W (w.heap.size + 1) 0 u0 u1 u2 u3 u4) := by
  have hlt := h.lt
  have hr : RowsIn (fun b => b < B ∨ (w.heap.size + 3 ≤ b ∧ b < W.heap.size)) W accI css := h.rows.keep (fun _ _ _ => rfl) (fun b hb => hb.imp id fun hb => ⟨hb.1, hb.2.1⟩)
  obtain ⟨A, c, rfl, hc1, hc2, hA⟩ := rows_lie hr h.items (fun b hb => .inr (World.ownsRow.lt h.items b hb))
  have hcK := fun g hg => World.ownsRow.cells h.keys (g := g) hg
  have h8 := h.keys
  obtain ⟨K, q, rfl, hq1, hq2, hK⟩ : ∃ K q, rK = .slice K accK.length q ∧ accK.length ≤ q ∧ q ≤ maxLen ∧ (accK = [] ∨ ∃ b, K = some ⟨b, 0, none⟩ ∧ (w.heap.size + 3 ≤ b ∧ b < W.heap.size) ∧ StrsFrom W accK b 0) := by
    have hlt := fun b hb => World.ownsRow.lt h8 b hb
    obtain ⟨hl, ⟨rfl, h0⟩ | ⟨g', cap, cur, rfl, hB, hb, hn, hm, hs, ht⟩⟩ := h8
    · exact ⟨none, 0, by rw [h0], by omega, by simp [maxLen], .inl (List.length_eq_zero_iff.1 h0)⟩
    · refine ⟨_, _, rfl, hn, hm, .inr ⟨g', rfl, hlt g' rfl, keys_from h.sizes fun j v hj => ?_⟩⟩
      have := hcK g' rfl j v hj
      rw [Addr.add_lit] at this
      exact this
  have hL : LiesIn (fun b => b < B ∨ (w.heap.size + 3 ≤ b ∧ b < W.heap.size)) W (V.mk kd 0 ⟨#[]⟩ accI accK) A c K q := by
    rw [LiesIn]
    exact ⟨by decide, hc1, hc2, ⟨hq1, hq2, hK.imp id fun ⟨b, hKe, hb, hfr⟩ => ⟨b, 0, hKe, .inr hb, hfr⟩⟩, hA⟩
  have hs := put5_size W (w.heap.size + 1) 0 u0 u1 u2 u3 u4
  refine ⟨A, c, K, q, rfl, rfl, LiesIn.keep (fun b o hb => World.cell?_of_block (put5_heap W (w.heap.size + 1) 0 u0 u1 u2 u3 u4 ?_)) (fun b hb => hb.imp id fun hb => ⟨by omega, by rw [hs]; exact hb.2⟩) _ hL, ((((h.old.setCell (by simp) _).setCell (by simp) _).setCell (by simp) _).setCell (by simp) _).setCell (by simp) _⟩
  show b ≠ w.heap.size + 1
  rcases (show b < B ∨ (w.heap.size + 3 ≤ b ∧ b < W.heap.size) from hb) with hb | hb
  · omega
  · have := hb.1; omega
/-- Behind the inner call: its answer laid in the item's box. -/
theorem WO.inner {wr wc w6 : World} {a0 a1 a2 a3 a4 : Value} (h : WO w B vc kd accI accK rI rK css wr) (hB : B ≤ w.heap.size) (hb : Below wr.heap.size wr wc) (hbox : BlockIs wc wr.heap.size 27 #[a0, a1, a2, a3, a4]) (h6 : Below wc.drew.heap.size wc.drew w6) (hl : LiesIn (fun b => b < B ∨ Fresh wc.drew w6 b) w6 y A c K d) :
    WO w B vc kd accI accK rI rK css (put5 w6 wr.heap.size 0 (.int .i64 y.kind) (.int .i64 y.int) (.string y.text) (.slice A y.items.length c) (.slice K y.keys.length d)) ∧ BlockIs (put5 w6 wr.heap.size 0 (.int .i64 y.kind) (.int .i64 y.int) (.string y.text) (.slice A y.items.length c) (.slice K y.keys.length d)) wr.heap.size 27 #[.int .i64 y.kind, .int .i64 y.int, .string y.text, .slice A y.items.length c, .slice K y.keys.length d] ∧
      LiesIn (PO w B rI rK (put5 w6 wr.heap.size 0 (.int .i64 y.kind) (.int .i64 y.int) (.string y.text) (.slice A y.items.length c) (.slice K y.keys.length d))) (put5 w6 wr.heap.size 0 (.int .i64 y.kind) (.int .i64 y.int) (.string y.text) (.slice A y.items.length c) (.slice K y.keys.length d)) y A c K d := by
  have hlt := h.lt
  have hg := hbox.lt
  have hc6 : Below wc.heap.size wc w6 := ⟨h6.os, h6.tape, h6.output, h6.size, h6.block⟩
  have hb6 : Below wr.heap.size wr w6 := hb.trans (hc6.mono hb.size)
  have hp := below_put5 (g := wr.heap.size) hb6 (Nat.le_refl _) (.int .i64 y.kind) (.int .i64 y.int) (.string y.text) (.slice A y.items.length c) (.slice K y.keys.length d)
  have hs := put5_size w6 wr.heap.size 0 (.int .i64 y.kind) (.int .i64 y.int) (.string y.text) (.slice A y.items.length c) (.slice K y.keys.length d)
  have hf : ∀ b, Fresh wc.drew w6 b → wc.heap.size ≤ b ∧ b < w6.heap.size := fun b hb => hb
  refine ⟨h.below hB hp, ?_, LiesIn.keep (fun b o hb => World.cell?_of_block (put5_heap _ _ _ _ _ _ _ _ ?_)) (fun b hb => hb.imp id fun hb => ⟨by have := (hf b hb).1; omega, by rw [hs]; exact hb.2, fun e => ?_, fun e => ?_⟩) _ hl⟩
  · have := (((((hbox.below hc6 hg).set_ 0 (.int .i64 y.kind)).set_ 1 (.int .i64 y.int)).set_ 2 (.string y.text)).set_ 3 (.slice A y.items.length c)).set_ 4 (.slice K y.keys.length d)
    simpa [put5] using this
  · show b ≠ wr.heap.size
    rcases (show b < B ∨ Fresh wc.drew w6 b from hb) with h | h
    · omega
    · have := (hf b h).1; omega
  · have := (World.ownsRow.lt h.items b e.symm).2; have := (hf b hb).1; omega
  · have := (World.ownsRow.lt h.keys b e.symm).2; have := (hf b hb).1; omega
/-- An elder value hangs on elder blocks. -/
theorem WO.elder (h : WO w B vc kd accI accK rI rK css W) (hl : Lies w B y A c K d) (hB : B ≤ w.heap.size) : LiesIn (PO w B rI rK W) W y A c K d :=
  lies_inn (fun b hb => .inl hb) y (hl.keep (fun b o hlt => bcell h.old b o (by omega)) (Nat.le_refl _) y)
end
open Go.RowKit
/-- The keys that stay. -/
def keyCut (kd : Int) (b : Bool) (n : Nat) (k : ByteArray) (l : List ByteArray) : List ByteArray := if kd = 5 then cutL b n k l else []
/-- What the specification's taking out leaves. -/
def OutP (B : Nat) (y : V) (w : World) (e : Ending) (w' : World) : Prop :=
  ∃ A c K d, e = .returned (aggOf y A c K d) ∧ LiesIn (fun b => b < B ∨ Fresh w w' b) w' y A c K d ∧ Below w.heap.size w w'
theorem cutL_len {α : Type} {b : Bool} {n : Nat} {y : α} {l : List α} : (cutL b n y l).length ≤ l.length := by
  cases b
  · simp [cutL]
  · simp only [cutL, if_true]; exact List.length_eraseIdx_le l n
theorem keyCut_more {kd : Int} {r : List Stp} {n0 j : Nat} {k kk : ByteArray} {ks : List ByteArray} (h5 : kd = 5) (hkk : ks[j]? = some kk) (h1 : j = n0 → kd = 5 → ks[j]? = some k) (h2 : j = n0 → ¬ r = []) :
    keyCut kd (decide (r = [])) n0 k (ks.take (j + 1)) = keyCut kd (decide (r = [])) n0 k (ks.take j) ++ [kk] := by
  unfold keyCut
  rw [if_pos h5, if_pos h5]
  by_cases hj : j = n0
  · have := h1 hj h5
    rw [hkk] at this
    rw [Option.some.inj this, decide_eq_false (h2 hj), hj]
    exact cutL_put (by rw [← hj]; exact hkk)
  · exact cutL_keep hkk hj
theorem keyCut_len {kd : Int} {b : Bool} {n0 : Nat} {k : ByteArray} {l : List ByteArray} : (keyCut kd b n0 k l).length ≤ l.length := by
  unfold keyCut
  split
  · exact cutL_len
  · simp
theorem WO.skip {w W : World} {B : Nat} {vc : Array Value} {kd : Int} {l : List V} {ks : List ByteArray} {r : List Stp} {n0 j : Nat} {yo y : V} {k : ByteArray} {rI rK : Value} {css : List (List Value)}
    (h : WO w B vc kd (cutL (decide (r = [])) n0 yo (l.take j)) (keyCut kd (decide (r = [])) n0 k (ks.take j)) rI rK css W) (hr : r = []) (hj : j = n0) (hy : l[j]? = some y) (hk : kd = 5 → ks[j]? = some k) :
    WO w B vc kd (cutL (decide (r = [])) n0 yo (l.take (j + 1))) (keyCut kd (decide (r = [])) n0 k (ks.take (j + 1))) rI rK css W := by
  subst hr hj
  have e1 : cutL (decide (([] : List Stp) = [])) j yo (l.take (j + 1)) = cutL (decide (([] : List Stp) = [])) j yo (l.take j) := cutL_skip hy
  have e2 : keyCut kd (decide (([] : List Stp) = [])) j k (ks.take (j + 1)) = keyCut kd (decide (([] : List Stp) = [])) j k (ks.take j) := by
    unfold keyCut
    by_cases h5 : kd = 5
    · rw [if_pos h5, if_pos h5]; exact cutL_skip (hk h5)
    · rw [if_neg h5, if_neg h5]
  rw [e1, e2]
  exact h
set_option maxRecDepth 100000 in
set_option maxHeartbeats 4000000 in
theorem out_step (B : Nat) (x : V) (i : Int) (k : ByteArray) (r : List Stp) (yo : V) (n0 : Nat) (w : World) (A K : Option Addr) (c d : Nat) (Ap : Option Addr) (cp : Nat)
    (hB : B ≤ w.heap.size) (hx : Lies w B x A c K d) (hp : PLies w w.heap.size Ap cp ((i, k) :: r)) (hok : x.ok = true) (hn : x.nodes ≤ 10000) (hs : stepB (i, k) = true)
    (hkind : x.kind = holderS (i, k)) (hn0 : n0 = whereV x (i, k)) (hlt : n0 < x.items.length) (hkey : x.kind = 5 → x.keys[n0]? = some k)
    (ih : ¬ r = [] → ∀ (y : V), x.items[n0]? = some y → ∀ (w : World) (A K : Option Addr) (c d : Nat) (Ap : Option Addr) (cp : Nat), B ≤ w.heap.size → Lies w B y A c K d → PLies w w.heap.size Ap cp r →
      Calls Tryz.prog 54 #[.agg #[.int .i64 y.kind, .int .i64 y.int, .string y.text, .slice A y.items.length c, .slice K y.keys.length d], .slice Ap r.length cp] w (OutP B yo w)) :
    Calls Tryz.prog 54 #[.agg #[.int .i64 x.kind, .int .i64 x.int, .string x.text, .slice A x.items.length c, .slice K x.keys.length d], .slice Ap (r.length + 1) cp] w
      (OutP B (.mk x.kind 0 ⟨#[]⟩ (cutL (decide (r = [])) n0 yo x.items) (keyCut x.kind (decide (r = [])) n0 k x.keys)) w) := by
  obtain ⟨R, hR⟩ : ∃ R, R = V.mk x.kind 0 ⟨#[]⟩ (cutL (decide (r = [])) n0 yo x.items) (keyCut x.kind (decide (r = [])) n0 k x.keys) := ⟨_, rfl⟩
  rw [← hR]
  have HR := Lib.hid hR
  clear hR
  obtain ⟨hp1, hp2, hp3⟩ := hp
  obtain ⟨b, o, rfl, hb, hf⟩ : ∃ b o, Ap = some ⟨b, o, none⟩ ∧ b < w.heap.size ∧ StepsFrom w ((i, k) :: r) b o := by
    rcases hp3 with h | h
    · simp at h
    · exact h
  have hcp : r.length + 1 ≤ cp := by simpa using hp1
  unfold maxLen at hp2
  obtain ⟨e0, e1, hks, hrest⟩ := hf
  have HP := Lib.hid fun W (hW : Below w.heap.size w W) => show PLies W W.heap.size (some ⟨b, o + 2, none⟩) (cp - 1) r from ⟨by omega, by unfold maxLen; omega, .inr ⟨b, o + 2, rfl, by have := hW.size; omega, hrest.keep fun o => bcell hW b o hb⟩⟩
  have HX := Lib.hid fun W (hW : Below w.heap.size w W) => show Lies W B x A c K d from hx.keep (fun b o hlt => bcell hW b o (by omega)) (Nat.le_refl _) x
  have HE := Lib.hid fun W (hW : Below w.heap.size w W) => (show W.cell? ⟨b, o, none⟩ = some (.int .i64 i) ∧ W.cell? ⟨b, o + 1, none⟩ = some (.string k) from ⟨(bcell hW b o hb).trans e0, (bcell hW b (o + 1) hb).trans e1⟩)
  have HB := Lib.hid hB
  have HIH := Lib.hid ih
  obtain ⟨hr, hk1, hk2⟩ := okk hok
  have HLEN := Lib.hid (show x.items.length ≤ 10000 by have := nodes_items x; have := length_le_nodesL x.items; omega)
  obtain ⟨n, hnn⟩ : ∃ n, n = x.items.length := ⟨_, rfl⟩
  obtain ⟨m, hmm⟩ : ∃ m, m = x.keys.length := ⟨_, rfl⟩
  have HN := Lib.hid (And.intro hnn hmm)
  have HW0 := Lib.hid (WO.start w B #[.int .i64 x.kind, .int .i64 x.int, .string x.text, .slice A n c, .slice K m d] x.kind)
  -- which item is meant
  have HSEL := Lib.hid (show ∀ j : Nat, j < n → (0 ≤ i → ((i = j) ↔ j = n0)) ∧ (i < 0 → ∀ kk, x.keys[j]? = some kk → (kk = k ↔ j = n0)) from fun j hj => ⟨fun h0 => by
    rw [hn0, show whereV x (i, k) = i.toNat by simp [whereV, findV, h0]]
    omega, fun h0 kk hkk => by
    have h5 : x.kind = 5 := by rw [hkind, holderS, if_pos h0]
    constructor
    · intro e
      subst e
      have := posK_at hr hkk
      rw [hn0, ← this]; simp [whereV, findV, show ¬ 0 ≤ i by omega]
    · intro e
      rw [e, hkey h5] at hkk
      exact (Option.some.inj hkk).symm⟩)
  have HKIND := Lib.hid (show (i < 0 → x.kind = 5) ∧ (¬ i < 0 → x.kind = 4) from ⟨fun h => by rw [hkind, holderS, if_pos h], fun h => by rw [hkind, holderS, if_neg h]⟩)
  have HI := Lib.hid (show i < 0 → i = -1 from fun h => by
    unfold stepB at hs
    by_cases e : i = -1
    · exact e
    · rw [if_neg (by simpa using e)] at hs; simp at hs; omega)
  have HKL := Lib.hid hk2
  have HN0 := Lib.hid (And.intro hlt hkey)
  have HKS := Lib.hid hks
  rw [← hnn, ← hmm]
  clear hx hp1 hp3 hok hn hs hkind hn0 hlt hkey ih hB hks hrest hr hk1 hk2 hnn hmm e0 e1
  have hr0 : (0 : Int) < (r.length : Int) + 1 := by omega
  have hr1 : (1 : Int) ≤ (r.length : Int) + 1 := by omega
  have hr2 : (r.length : Int) + 1 ≤ cp := by omega
  have hr3 : (1 : Int) ≤ cp := by omega
  go_enter Tryz.func54, Tryz.ntmps54
  go_upto_region 2 with (fail)
  obtain ⟨W0, hW0⟩ : ∃ W0, W0 = ((w.alloc (.cells #[.int .i64 x.kind, .int .i64 x.int, .string x.text, .slice A n c, .slice K m d] 27)).alloc (.cells zeroF 27)).alloc (.cells #[.int .i64 x.kind, .int .i64 0, .string ⟨#[]⟩, .slice none 0 0, .slice none 0 0] 27) := ⟨_, rfl⟩
  rw [← hW0] at HW0
  rw [show zeroF = #[.int .i64 0, .int .i64 0, .string ⟨#[]⟩, .slice none 0 0, .slice none 0 0] from rfl] at hW0
  rw [← hW0]
  clear hW0
  go_wp2_with fail
  go_loopw [6] (fun iv wr => ∃ (j : Nat) (rI rK : Value) (css : List (List Value)), iv = .int .i64 j ∧ j ≤ n ∧
      Hid (WO w B #[.int .i64 x.kind, .int .i64 x.int, .string x.text, .slice A n c, .slice K m d] x.kind (cutL (decide (r = [])) n0 yo (x.items.take j)) (keyCut x.kind (decide (r = [])) n0 k (x.keys.take j)) rI rK css wr)) (fun iv _ => n - (intOf iv).toNat)
  case atStart => exact ⟨0, _, _, [], rfl, Nat.zero_le _, Lib.hid (by
    have := HW0.out
    simpa [cutL, keyCut] using this)⟩
  case round =>
    obtain ⟨j, rI, rK, css, rfl, hj, HW⟩ := hrel
    have hwl := HW.out.lt
    have hnb : n ≤ 10000 := by have := HLEN.out; have := HN.out.1; omega
    obtain ⟨v0, v1, v2, v3, v4⟩ := five_of HW.out.bv
    have vl := HW.out.bv.lt
    by_cases hlt : j < n
    · have hjn : (j : Int) < n := by omega
      have hj0 : (0 : Int) ≤ j := by omega
      have hji : j < x.items.length := by have := HN.out.1; omega
      obtain ⟨y, hy⟩ : ∃ y, x.items[j]? = some y := ⟨_, List.getElem?_eq_getElem hji⟩
      have hxw := HX.out wr HW.out.old
      obtain ⟨b2, o2, rfl, hb2, hfrom⟩ := (lies_items hxw).at_ hji
      obtain ⟨Ay, cy, Ky, dy, y0, y1, y2, y3, y4, hly⟩ := hfrom.at_ hy
      have HY := Lib.hid hy
      have HLY := Lib.hid hly
      clear hfrom hly hy hji
      go_upto_region 6 with (fail)
      obtain ⟨wb, hwb⟩ : ∃ wb, wb = wr.alloc (.cells #[.int .i64 y.kind, .int .i64 y.int, .string y.text, .slice Ay y.items.length cy, .slice Ky y.keys.length dy] 27) := ⟨_, rfl⟩
      have hbb : Below wr.heap.size wr wb := by rw [hwb]; exact below_al (Below.refl _ wr) _
      have HWb := Lib.hid (HW.out.below HB.out hbb)
      have HXb := Lib.hid (show BlockIs wb wr.heap.size 27 #[.int .i64 y.kind, .int .i64 y.int, .string y.text, .slice Ay y.items.length cy, .slice Ky y.keys.length dy] by rw [hwb]; exact BlockIs.new wr _ _)
      have HLb := Lib.hid (show Lies wb B y Ay cy Ky dy from HLY.out.keep (fun b o hlt => bcell hbb b o (by have := HB.out; omega)) (Nat.le_refl _) y)
      rw [← hwb]
      have HBB := Lib.hid hbb
      clear hwb hbb y0 y1 y2 y3 y4 v0 v1 v2 v3 v4 HLY
      go_cut [47] from 11 to 73 (fun bq wx => bq = .bool (decide (j = n0)) ∧ ∃ q, wx = wb.drewN q)
      case first =>
        obtain ⟨e0, e1⟩ := HE.out wb HWb.out.old
        have hbl : b < wb.heap.size := by have := HWb.out.old.size; omega
        obtain ⟨v0, v1, v2, v3, v4⟩ := five_of HWb.out.bv
        have vl := HWb.out.bv.lt
        have hjb : (j : Int) ≤ 9223372036854775807 := by have := HLEN.out; have := HN.out.1; omega
        by_cases hi : i < 0
        · have hi2 : decide (i < 0) = true := by simp [hi]
          have hij : (i == (j : Int)) = false := by rw [beq_eq_false_iff_ne]; omega
          have h5 := HKIND.out.1 hi
          have hm : j < x.keys.length := by have := HKL.out h5; have := HN.out.1; omega
          have hmi : (j : Int) < m := by have := HN.out.2; omega
          obtain ⟨kb, ko, rfl, hkb, hkf⟩ := (lies_keys (HX.out wb HWb.out.old)).at_ hm
          obtain ⟨kk, hkk⟩ : ∃ kk, x.keys[j]? = some kk := ⟨_, List.getElem?_eq_getElem hm⟩
          have hkc := (hkf j kk hkk).1
          have hsel := ((HSEL.out j hlt).2 hi kk hkk)
          clear hkf hkk hm h5 hxw
          by_cases hjn0 : j = n0
          · have hkq : (kk.toList == k.toList) = true := by rw [hsel.2 hjn0]; simp
            have HJ0 := Lib.hid (show decide (j = n0) = true by simp [hjn0])
            clear hjn0 hsel
            go_quiet (fail)
            go_wp2_with fail
            go_meet
            exact ⟨by rw [HJ0.out], nq, rfl⟩
          · have hkq : (kk.toList == k.toList) = false := by
              rw [beq_eq_false_iff_ne]
              intro e
              exact hjn0 (hsel.1 (eqT (by rw [e]; simp)))
            have HJ0 := Lib.hid (show decide (j = n0) = false by simp [hjn0])
            clear hjn0 hsel
            go_quiet (fail)
            go_wp2_with fail
            go_meet
            exact ⟨by rw [HJ0.out], nq, rfl⟩
        · have hi2 : decide (i < 0) = false := by simp; omega
          have hsel := (HSEL.out j hlt).1 (by omega)
          clear hxw
          by_cases hjn0 : j = n0
          · have hij : (i == (j : Int)) = true := by rw [beq_iff_eq]; exact hsel.2 hjn0
            have HJ0 := Lib.hid (show decide (j = n0) = true by simp [hjn0])
            clear hjn0 hsel
            go_quiet (fail)
            go_wp2_with fail
            go_meet
            exact ⟨by rw [HJ0.out], nq, rfl⟩
          · have hij : (i == (j : Int)) = false := by rw [beq_eq_false_iff_ne]; exact fun e => hjn0 (hsel.1 e)
            have HJ0 := Lib.hid (show decide (j = n0) = false by simp [hjn0])
            clear hjn0 hsel
            go_quiet (fail)
            go_wp2_with fail
            go_meet
            exact ⟨by rw [HJ0.out], nq, rfl⟩
      case rest =>
        obtain ⟨rfl, q, hwq⟩ := hcut
        have HKEY := Lib.hid (show j = n0 → x.kind = 5 → x.keys[j]? = some k from fun e h => by rw [e]; exact HN0.out.2 h)
        have HWc := Lib.hid (show WO w B _ _ _ _ rI rK css wc by rw [hwq]; exact HWb.out.below HB.out (below_drewN (Below.refl _ wb) q))
        have HXc := Lib.hid (show BlockIs wc wr.heap.size 27 #[.int .i64 y.kind, .int .i64 y.int, .string y.text, .slice Ay y.items.length cy, .slice Ky y.keys.length dy] by rw [hwq]; exact HXb.out.drewN q)
        have HLc := Lib.hid (show Lies wc B y Ay cy Ky dy by rw [hwq]; exact Lies.keep (w := wb) (w' := wb.drewN q) (fun _ _ _ => rfl) (Nat.le_refl _) y HLb.out)
        have HBc := Lib.hid (show Below wr.heap.size wr wc by rw [hwq]; exact HBB.out.trans ((below_drewN (Below.refl _ wb) q).mono HBB.out.size))
        clear hwq HWb HXb HLb HSEL HKIND HI HN0 hxw HBB
        obtain ⟨bq, hbq⟩ : ∃ bq, decide (j = n0) = bq := ⟨_, rfl⟩
        rw [hbq]
        have HBQ := Lib.hid hbq
        clear hbq
        go_upto_if 47 with (fail)
        go_cut [] from 11 to 73 (fun wx => ∃ (y' : V) (A' K' : Option Addr) (c' d' : Nat), Hid (WO w B #[.int .i64 x.kind, .int .i64 x.int, .string x.text, .slice (some ⟨b2, o2, none⟩) n c, .slice K m d] x.kind (cutL (decide (r = [])) n0 yo (x.items.take j)) (keyCut x.kind (decide (r = [])) n0 k (x.keys.take j)) rI rK css wx) ∧ Hid (BlockIs wx wr.heap.size 27 #[.int .i64 y'.kind, .int .i64 y'.int, .string y'.text, .slice A' y'.items.length c', .slice K' y'.keys.length d']) ∧ Hid (LiesIn (PO w B rI rK wx) wx y' A' c' K' d') ∧ Hid (cutL (decide (r = [])) n0 yo (x.items.take (j + 1)) = cutL (decide (r = [])) n0 yo (x.items.take j) ++ [y'] ∧ (j = n0 → ¬ r = [])))
        case first =>
          cases bq
          case true =>
            have HJ0 := Lib.hid (of_decide_eq_true HBQ.out)
            clear HBQ
            by_cases hr : r = []
            · have hr4 : ((r.length : Int) + 1 == 1) = true := by rw [hr]; rfl
              have HR0 := Lib.hid hr
              clear hr
              go_wp2_with fail
              go_roundw
              case rel => exact ⟨j + 1, rI, rK, css, by go_num, by omega, Lib.hid (WO.skip HWc.out HR0.out HJ0.out HY.out (HKEY.out HJ0.out))⟩
              case measure => simp [intOf]; omega
            · have hr4 : ((r.length : Int) + 1 == 1) = false := by
                have : r.length ≠ 0 := fun e => hr (List.length_eq_zero_iff.1 e)
                rw [beq_eq_false_iff_ne]; omega
              have HR0 := Lib.hid hr
              clear hr
              have hcp2 : ¬ cp = 1 := by
                have : r.length ≠ 0 := fun e => HR0.out (List.length_eq_zero_iff.1 e)
                omega
              have HIC := Lib.hid (HIH.out HR0.out y (by rw [← HJ0.out]; exact HY.out) wc.drew Ay Ky cy dy (some ⟨b, o + 2, none⟩) (cp - 1) (by have := HB.out; have := HWc.out.old.size; have e : wc.drew.heap.size = wc.heap.size := rfl; omega) (Lies.keep (w := wc) (w' := wc.drew) (fun _ _ _ => rfl) (Nat.le_refl _) y HLc.out) (HP.out wc.drew (below_on HWc.out.old (Below.refl _ wc).drew)))
              obtain ⟨x0, x1, x2, x3, x4⟩ := five_of HXc.out
              have xl := HXc.out.lt
              go_upto_region 8 with (fail)
              go_region_with (go_at_call 54; refine HIC.out.mono ?_; rintro e w6 ⟨A6, c6, K6, d6, rfl, hl6, h6⟩; have hx6 := (show BlockIs w6 wr.heap.size 27 #[.int .i64 y.kind, .int .i64 y.int, .string y.text, .slice Ay y.items.length cy, .slice Ky y.keys.length dy] from (show BlockIs wc.drew wr.heap.size _ _ from HXc.out).below h6 HXc.out.lt); obtain ⟨z0, z1, z2, z3, z4⟩ := five_of hx6; have zl := BlockIs.lt hx6; have zf0 := BlockIs.frozen hx6 0; have zf1 := BlockIs.frozen hx6 1; have zf2 := BlockIs.frozen hx6 2; have zf3 := BlockIs.frozen hx6 3; have zf4 := BlockIs.frozen hx6 4; have HM6 := Lib.hid (And.intro h6 hl6); clear h6 hl6 hx6; unfold aggOf)
              all_goals
                go_wp2_with fail
                go_meet
                have hin := WO.inner HW.out HB.out HBc.out HXc.out HM6.out.1 HM6.out.2
                exact ⟨yo, A6, K6, c6, d6, Lib.hid hin.1, Lib.hid hin.2.1, Lib.hid hin.2.2, Lib.hid ⟨by rw [show decide (r = []) = false from decide_eq_false HR0.out, HJ0.out]; exact cutL_put (by rw [← HJ0.out]; exact HY.out), fun _ => HR0.out⟩⟩
          case false =>
            have HJN := Lib.hid (of_decide_eq_false HBQ.out)
            clear HBQ
            go_wp2_with fail
            go_meet
            exact ⟨y, _, _, _, _, HWc, HXc, Lib.hid (lies_inn (fun b hb => .inl hb) y HLc.out), Lib.hid ⟨cutL_keep HY.out HJN.out, fun e => absurd e HJN.out⟩⟩
        case rest =>
          obtain ⟨y', A', K', c', d', HWd, HXd, HLd, HCUT⟩ := hcut
          have HKL2 := Lib.hid (show x.kind = 5 → ∀ kk, x.keys[j]? = some kk → keyCut x.kind (decide (r = [])) n0 k (x.keys.take (j + 1)) = keyCut x.kind (decide (r = [])) n0 k (x.keys.take j) ++ [kk] from fun h5 kk hkk => keyCut_more h5 hkk HKEY.out HCUT.out.2)
          have HKN := Lib.hid (show ¬ x.kind = 5 → keyCut x.kind (decide (r = [])) n0 k (x.keys.take (j + 1)) = keyCut x.kind (decide (r = [])) n0 k (x.keys.take j) from fun h5 => by unfold keyCut; rw [if_neg h5, if_neg h5])
          have HIN := Lib.hid HCUT.out.1
          have HLE := Lib.hid (And.intro (show (cutL (decide (r = [])) n0 yo (x.items.take j)).length ≤ 10000 from Nat.le_trans cutL_len (by rw [List.length_take]; omega)) (show (keyCut x.kind (decide (r = [])) n0 k (x.keys.take j)).length ≤ 10000 from Nat.le_trans keyCut_len (by rw [List.length_take]; omega)))
          obtain ⟨aI, haI⟩ : ∃ aI, aI = cutL (decide (r = [])) n0 yo (x.items.take j) := ⟨_, rfl⟩
          obtain ⟨aK, haK⟩ : ∃ aK, aK = keyCut x.kind (decide (r = [])) n0 k (x.keys.take j) := ⟨_, rfl⟩
          rw [← haI, ← haK] at HWd HLE
          rw [← haI] at HIN
          rw [← haK] at HKL2 HKN
          clear haI haK HCUT HKEY HXc HLc HWc HY HIH HP HE HW
          obtain ⟨rA, rc, rfl⟩ := own_form HWd.out.items
          obtain ⟨rB, rd, rfl⟩ := own_form HWd.out.keys
          obtain ⟨va, Wa, hra, ⟨va1, va2, rfl⟩, hca, hfa, hla, hwa⟩ := WO.item HWd.out HB.out HLd.out HLE.out.1
          have HRA := Lib.hid hra
          have HWA := Lib.hid hwa
          obtain ⟨p0, p1, p2, p3, p4⟩ := five_of HWd.out.bo
          obtain ⟨q0, q1, q2, q3, q4⟩ := five_of HXd.out
          have pl := HWd.out.bo.lt
          have ql := HXd.out.lt
          have hc3 := (hca 3).trans p3
          clear hra hwa hca
          go_upto_region 10 with (at_builtin; refine Lib.wpList_append_run _ rfl _ _ _ _ rfl _ _ rfl rfl _ _ HRA.out ?_)
          obtain ⟨W2, hW2⟩ : ∃ W2, W2 = Wa.setCell ⟨w.heap.size + 2, 3, none⟩ (.slice va1 (aI.length + 1) va2) := ⟨_, rfl⟩
          rw [← hW2] at HWA ⊢
          clear hW2 hc3 hfa hla p0 p1 p2 p3 p4 q0 q1 q2 q3 q4 pl ql HRA HWd HXd HLd
          obtain ⟨v0, v1, v2, v3, v4⟩ := five_of HWA.out.bv
          have vl := HWA.out.bv.lt
          by_cases h5 : x.kind = 5
          · have h5b : (x.kind == 5) = true := by rw [beq_iff_eq]; exact h5
            have hm : j < x.keys.length := by have := HKL.out h5; have := HN.out.1; omega
            have hmi : (j : Int) < m := by have := HN.out.2; omega
            obtain ⟨kb, ko, rfl, hkb, hkf⟩ := (lies_keys (HX.out W2 HWA.out.old)).at_ hm
            obtain ⟨kk, hkk⟩ : ∃ kk, x.keys[j]? = some kk := ⟨_, List.getElem?_eq_getElem hm⟩
            have hkc := (hkf j kk hkk).1
            have hkbl : kb < W2.heap.size := by have := HB.out; have := HWA.out.lt; omega
            have HK5 := Lib.hid (HKL2.out h5 kk hkk)
            have HWD := Lib.hid (show WO w B _ _ _ _ _ _ _ W2.drew from HWA.out.below HB.out (Below.refl _ W2).drew)
            obtain ⟨vb, Wb, hrb, ⟨vb1, vb2, rfl⟩, hfb, hlb, hcb, hwb2⟩ := WO.key HWD.out HB.out (hkf j kk hkk).2 HLE.out.2
            have HRB := Lib.hid hrb
            have HWB := Lib.hid hwb2
            obtain ⟨p0, p1, p2, p3, p4⟩ := five_of HWA.out.bo
            have pl := HWA.out.bo.lt
            have hc4 := (hcb 4).trans p4
            clear hrb hwb2 hcb hkf hkk hm h5 HKN HKL2
            go_upto_region 11 with (fail)
            go_region_law (refine step_append_run (by rfl) _ _ _ _ (by rfl) _ _ (by rfl) (by rfl) _ _ HRB.out ?_)
            all_goals
              go_wp2_with fail
              go_roundw
              case rel => exact ⟨j + 1, _, _, _, by go_num, by omega, Lib.hid (by rw [HIN.out, HK5.out]; exact HWB.out)⟩
              case measure => simp [intOf]; omega
          · have h5b : (x.kind == 5) = false := by rw [beq_eq_false_iff_ne]; exact h5
            have HK5 := Lib.hid (HKN.out h5)
            clear h5
            go_wp2_with fail
            go_roundw
            case rel => exact ⟨j + 1, _, _, _, by go_num, by omega, Lib.hid (by rw [HIN.out, HK5.out]; exact HWA.out)⟩
            case measure => simp [intOf]; omega
    · have hjn : ¬ ((j : Int) < n) := by omega
      have HD := Lib.hid (show R = V.mk x.kind 0 ⟨#[]⟩ (cutL (decide (r = [])) n0 yo (x.items.take j)) (keyCut x.kind (decide (r = [])) n0 k (x.keys.take j)) by
        rw [HR.out]
        have h1 : x.items.take j = x.items := List.take_of_length_le (by have := HN.out.1; omega)
        rw [h1]
        congr 1
        unfold keyCut
        by_cases h5 : x.kind = 5
        · rw [if_pos h5, if_pos h5, List.take_of_length_le (by have := HKL.out h5; have := HN.out.1; omega)]
        · rw [if_neg h5, if_neg h5])
      obtain ⟨aI, haI⟩ : ∃ aI, aI = cutL (decide (r = [])) n0 yo (x.items.take j) := ⟨_, rfl⟩
      obtain ⟨aK, haK⟩ : ∃ aK, aK = keyCut x.kind (decide (r = [])) n0 k (x.keys.take j) := ⟨_, rfl⟩
      rw [← haI, ← haK] at HW HD
      clear haI haK HR HSEL HKIND HI HKL HN0 HIH HP HE HX
      have hdone := fun u0 u1 u2 u3 u4 => WO.done (u0 := u0) (u1 := u1) (u2 := u2) (u3 := u3) (u4 := u4) HW.out HB.out
      obtain ⟨rA, rc, rB, rd, rfl, rfl, -, -⟩ := hdone (.int .i64 0) (.int .i64 0) (.int .i64 0) (.int .i64 0) (.int .i64 0)
      have HDN := Lib.hid (show ∀ u0 u1 u2 u3 u4, OutP B R w (.returned (aggOf R rA rc rB rd)) (put5 wr (w.heap.size + 1) 0 u0 u1 u2 u3 u4) from fun u0 u1 u2 u3 u4 => by
        obtain ⟨A, c, K, d, e1, e2, h1, h2⟩ := hdone u0 u1 u2 u3 u4
        cases e1
        cases e2
        rw [HD.out]
        exact ⟨_, _, _, _, rfl, h1, h2⟩)
      clear hdone
      obtain ⟨p0, p1, p2, p3, p4⟩ := five_of HW.out.bo
      obtain ⟨r0, r1, r2, r3, r4⟩ := five_of (show BlockIs wr (w.heap.size + 1) 27 #[.int .i64 0, .int .i64 0, .string ⟨#[]⟩, .slice none 0 0, .slice none 0 0] from HW.out.br)
      have f0 := HW.out.br.frozen 0
      have f1 := HW.out.br.frozen 1
      have f2 := HW.out.br.frozen 2
      have f3 := HW.out.br.frozen 3
      have f4 := HW.out.br.frozen 4
      have rl := HW.out.br.lt
      have pl := HW.out.bo.lt
      go_wp2_with fail
      refine bodyPost_ret (v := .agg #[.int .i64 x.kind, .int .i64 0, .string ⟨#[]⟩, .slice rA aI.length rc, .slice rB aK.length rd]) (by simp [results, Tryz.results54, go_sem, r0, r1, r2, r3, r4]) rfl ?_
      have hfin := HDN.out (.int .i64 x.kind) (.int .i64 0) (.string ⟨#[]⟩) (.slice rA aI.length rc) (.slice rB aK.length rd)
      rw [show aggOf R rA rc rB rd = .agg #[.int .i64 x.kind, .int .i64 0, .string ⟨#[]⟩, .slice rA aI.length rc, .slice rB aK.length rd] by rw [HD.out]; rfl] at hfin
      exact hfin
end Go.Proofs.YtebmjefimbcefaaGreatDoor
