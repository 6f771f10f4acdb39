/- What the definition's put leaves, at a predicate of blocks. -/
import Derived.Test.YtchadlbhdcpojaaGreatDoorJc
namespace Go.Proofs.YtchadlbhdcpojaaGreatDoor
open Go.RowKit
/-- The three appends that lay an item into a list. -/
theorem putLQ (W : World) (P : Nat → Prop) (hPW : ∀ b, P b → b < W.heap.size) (L : List V) (y : V) (A4 : Option Addr) (c4 : Nat) (A6 K6 : Option Addr) (c6 d6 : Nat) (hL : L.length ≤ c4 ∧ c4 ≤ maxLen ∧ (L = [] ∨ ∃ b o, A4 = some ⟨b, o, none⟩ ∧ P b ∧ LiesFromIn P W L b o)) (hy : LiesIn P W y A6 c6 K6 d6) (n : Nat) (hn : n ≤ L.length) (hlen : L.length ≤ 10000) :
    ∃ v1 W1 v2 W2, (Builtin.append_ #[24, 24] 24 #[.slice (some ⟨W.heap.size, 0, none⟩) 0 0, .slice A4 n c4]).run Tryz.prog (W.alloc (.cells #[] 27)) = .ok v1 W1 ∧
      (Builtin.append_ #[24, 24] 24 #[v1, .slice (some ⟨W1.heap.size, 0, none⟩) 1 1]).run Tryz.prog (W1.alloc (.cells #[.int .i64 y.kind, .int .i64 y.int, .string y.text, .slice A6 y.items.length c6, .slice K6 y.keys.length d6] 27)) = .ok v2 W2 ∧
      (∃ A c, v1 = .slice A n c) ∧ (∃ A c, v2 = .slice A (n + 1) c) ∧ Below W.heap.size W W1 ∧ Below W.heap.size W W2 ∧ (n = L.length → Made P W W2 v2 (L.take n ++ y :: L.drop (n + 1))) ∧
      (n < L.length → ∀ a, (L.length - (n + 1) = 0 ∨ ∃ b o, A4 = some ⟨b, o, none⟩ ∧ a = some ⟨b, o + (n + 1) * 5, none⟩) → ∃ v3 W3, (Builtin.append_ #[24, 24] 24 #[v2, .slice a (L.length - (n + 1)) (c4 - (n + 1))]).run Tryz.prog W2 = .ok v3 W3 ∧ (∃ A c, v3 = .slice A L.length c) ∧ Below W.heap.size W W3 ∧ Made P W W3 v3 (L.take n ++ y :: L.drop (n + 1))) := by
  obtain ⟨hL1, hL2, hL3⟩ := hL
  obtain ⟨css, hr, hc⟩ : ∃ css, RowsIn P W L css ∧ (L = [] ∨ ∃ b o, A4 = some ⟨b, o, none⟩ ∧ P b ∧ ∀ j u, css.flatten[j]? = some u → W.cell? ⟨b, o + j, none⟩ = some u) := by
    rcases hL3 with rfl | ⟨b, o, rfl, hb, hf⟩
    · exact ⟨[], trivial, .inl rfl⟩
    · obtain ⟨css, h1, h2⟩ := from_rows hf
      exact ⟨css, h1, .inr ⟨b, o, rfl, hb, h2⟩⟩
  have hfl := RowsIn.flat hr
  have hBW : ∀ b, P b → b < W.heap.size := hPW
  have hone := one_cell hr
  obtain ⟨ht1, ht2⟩ := RowsIn.flat_take n hr
  have hcl := hr.length
  -- the first
  have hb0 : Below W.heap.size W (W.alloc (.cells #[] 27)) := below_al (Below.refl _ W) _
  obtain ⟨v1, W1, hr1, ho1, hg1⟩ := appendR 24 (W.alloc (.cells #[] 27)) W.heap.size (.slice (some ⟨W.heap.size, 0, none⟩) 0 0) 0 [] (own_empty W _ (Nat.le_refl _) _) A4 n c4 (css.take n).flatten (by rw [ht1, List.length_take]; omega) (by
    rcases hc with rfl | ⟨b, o, rfl, hb, h⟩
    · exact .inl (by simpa using hn)
    · refine .inr ⟨_, rfl, fun j u hj => ?_⟩
      rw [ht1] at hj
      have hlt := (List.getElem?_eq_some_iff.1 hj).1
      rw [List.length_take] at hlt
      rw [List.getElem?_take_of_lt (by omega)] at hj
      rw [Addr.add_lit]
      exact (bcell hb0 b (o + j) (hBW b hb)).trans (h j u hj)) (fun u hu => hone u (by rw [ht1] at hu; exact List.mem_of_mem_take hu)) (by omega) (by simp)
  rw [Nat.zero_add, List.nil_append] at ho1
  have hb1 : Below W.heap.size W W1 := hb0.trans (below_grow hg1 (by simp) (fun b hb => by simp [Value.ownBlock] at hb; omega))
  have hs1 := hb1.size
  -- the second
  have hb1a := below_al (Below.refl _ W1) (.cells #[.int .i64 y.kind, .int .i64 y.int, .string y.text, .slice A6 y.items.length c6, .slice K6 y.keys.length d6] 27)
  have ho1a := World.ownsRow.kept ho1 (grown_none hb1a) (by cases v1.ownBlock; exact .inl rfl; exact .inr (by simp))
  have hnew := BlockIs.new W1 27 #[.int .i64 y.kind, .int .i64 y.int, .string y.text, .slice A6 y.items.length c6, .slice K6 y.keys.length d6]
  obtain ⟨v2, W2, hr2, ho2, hg2⟩ := appendR 24 _ W.heap.size v1 n _ ho1a (some ⟨W1.heap.size, 0, none⟩) 1 1 (fieldsL y A6 c6 K6 d6) rfl (.inr ⟨_, rfl, fun j u hj => by
    rw [Addr.add_lit, Nat.zero_add, hnew.cell j]
    rw [← hj]; simp [fieldsL]⟩) (fun u hu => by simp only [fieldsL, List.mem_cons, List.not_mem_nil, or_false] at hu; rcases hu with rfl | rfl | rfl | rfl | rfl <;> rfl) (by omega) (by simp; omega)
  have hb2 : Below W.heap.size W W2 := hb1.trans ((hb1a.mono hs1).trans (below_grow hg2 (by simp; omega) (fun b hb => (World.ownsRow.lt ho1 b hb).1)))
  have hkeep : ∀ W', Below W.heap.size W W' → ∀ b o, P b → W'.cell? ⟨b, o, none⟩ = W.cell? ⟨b, o, none⟩ := fun W' h b o hb => bcell h b o (hPW b hb)
  have hyW : ∀ W', Below W.heap.size W W' → RowIn P W' y (fieldsL y A6 c6 K6 d6) := fun W' h => ⟨A6, c6, K6, d6, rfl, LiesIn.keep (hkeep W' h) (fun _ h => h) y hy⟩
  refine ⟨v1, W1, v2, W2, hr1, hr2, own_form ho1, own_form ho2, hb1, hb2, fun e => ?_, fun hlt a ha => ?_⟩
  · have hd : L.drop (n + 1) = [] := List.drop_eq_nil_of_le (by omega)
    rw [hd]
    refine Made.of (css := css.take n ++ [fieldsL y A6 c6 K6 d6]) ?_ ?_
    · rw [List.flatten_append, show (L.take n ++ [y]).length = n + 1 by rw [List.length_append, List.length_take]; simp; omega]
      simpa using ho2
    · exact RowsIn.append (ys := [y]) (dss := [fieldsL y A6 c6 K6 d6]) ⟨hyW W2 hb2, trivial⟩ ((hr.take n).keep (hkeep W2 hb2) fun _ h => h)
  · have hlen2 : (css.drop (n + 1)).flatten.length = (L.length - (n + 1)) * 5 := by
      have := RowsIn.flat (hr.drop (n + 1)); rw [this, List.length_drop]
    obtain ⟨v3, W3, hr3, ho3, hg3⟩ := appendR 24 W2 W.heap.size v2 (n + 1) _ ho2 a (L.length - (n + 1)) (c4 - (n + 1)) (css.drop (n + 1)).flatten hlen2 (by
      rcases ha with ha | ⟨b, o, e1, rfl⟩
      · exact .inl ha
      · refine .inr ⟨_, rfl, fun j u hj => ?_⟩
        rcases hc with rfl | ⟨b', o', e2, hb, h⟩
        · simp at hlt
        · rw [e1] at e2
          simp only [Option.some.injEq, Addr.mk.injEq] at e2
          obtain ⟨rfl, rfl, -⟩ := e2
          rw [(RowsIn.flat_take (n + 1) hr).2, List.getElem?_drop] at hj
          rw [Addr.add_lit, show o + (n + 1) * 5 + j = o + ((n + 1) * 5 + j) by omega]
          exact (bcell hb2 b _ (hBW b hb)).trans (h _ u hj)) (fun u hu => hone u (by rw [(RowsIn.flat_take (n + 1) hr).2] at hu; exact List.mem_of_mem_drop hu)) (by omega) (by have := hb2.size; omega)
    have hb3 : Below W.heap.size W W3 := hb2.trans (below_grow hg3 hb2.size (fun b hb => (World.ownsRow.lt ho2 b hb).1))
    have hall : n + 1 + (L.length - (n + 1)) = L.length := by omega
    rw [hall] at ho3
    refine ⟨v3, W3, hr3, own_form ho3, hb3, Made.of (css := css.take n ++ fieldsL y A6 c6 K6 d6 :: css.drop (n + 1)) ?_ ?_⟩
    · rw [List.flatten_append, List.flatten_cons, show (L.take n ++ y :: L.drop (n + 1)).length = L.length by rw [List.length_append, List.length_cons, List.length_take, List.length_drop]; omega]
      simpa using ho3
    · exact RowsIn.append (ys := y :: L.drop (n + 1)) (dss := fieldsL y A6 c6 K6 d6 :: css.drop (n + 1)) ⟨hyW W3 hb3, (hr.drop (n + 1)).keep (hkeep W3 hb3) fun _ h => h⟩ ((hr.take n).keep (hkeep W3 hb3) fun _ h => h)
/-- What the specification's put leaves: what is answered hangs on what was there and on what is new. -/
def RefPQ (P0 : Nat → Prop) (q : V × Int) (w : World) (e : Ending) (w' : World) : Prop :=
  ∃ A c K d, e = .returned (.tuple #[aggOf q.1 A c K d, .int .i64 q.2]) ∧ LiesIn (fun b => P0 b ∨ Fresh w w' b) w' q.1 A c K d ∧ Below w.heap.size w w'
section
variable {w W W' : World} {vc xc : Array Value} {i : Int} {k : ByteArray} {P0 : Nat → Prop} {a b c d e u0 u1 u2 u3 u4 : Value} {y : V} {A K : Option Addr} {m q : Nat}
theorem QB.badQ (h : QB w vc xc i k W) (r : Int) : RefPQ P0 (nullV, r) w (.returned (.tuple #[aggOf (leaf 0 0 ⟨#[]⟩) none 0 none 0, .int .i64 r])) (put5 W (w.heap.size + 2) 0 u0 u1 u2 u3 u4) :=
  ⟨none, 0, none, 0, rfl, lies_leaf _ _ 0 0 _ (by decide), h.ends⟩
/-- What was made behind the boxes, answered. -/
theorem QB.goodQ (h : QB w vc xc i k W) (hB : ∀ b, P0 b → b < w.heap.size) (hl : LiesIn (fun b => P0 b ∨ (w.heap.size + 4 ≤ b ∧ b < W.heap.size)) W y A m K q) : RefPQ P0 (y, 0) w (.returned (.tuple #[aggOf y A m K q, .int .i64 0])) (put5 W (w.heap.size + 2) 0 u0 u1 u2 u3 u4) := by
  have hs := put5_size W (w.heap.size + 2) 0 u0 u1 u2 u3 u4
  refine ⟨A, m, K, q, rfl, LiesIn.keep (fun b o hb => World.cell?_of_block (put5_heap W (w.heap.size + 2) 0 u0 u1 u2 u3 u4 ?_)) (fun b hb => hb.imp id fun hb => ⟨by omega, by rw [hs]; exact hb.2⟩) _ hl, h.ends⟩
  rcases (show P0 b ∨ _ from hb) with hb | hb
  · have := hB b hb; show b ≠ w.heap.size + 2; omega
  · have := hb.1; show b ≠ w.heap.size + 2; omega
end
/-- Where it stands behind the inner put. -/
structure QD (P0 : Nat → Prop) (w : World) (vc xc : Array Value) (i : Int) (k : ByteArray) (g : Nat) (y : V) (A : Option Addr) (c : Nat) (K : Option Addr) (d : Nat) (y0 : V) (A4 : Option Addr) (c4 : Nat) (K4 : Option Addr) (d4 : Nat) (W : World) : Prop where
  qb : QB w vc xc i k W
  box : BlockIs W g 27 #[.int .i64 y.kind, .int .i64 y.int, .string y.text, .slice A y.items.length c, .slice K y.keys.length d]
  ly : LiesIn (fun b => P0 b ∨ (w.heap.size + 4 ≤ b ∧ b < W.heap.size)) W y A c K d
  l0 : LiesIn P0 W y0 A4 c4 K4 d4
section
variable {P0 : Nat → Prop} {i' : Nat} {w w6 W5 : World} {vc xc : Array Value} {i : Int} {k : ByteArray} {y y0 : V} {A K A4 K4 : Option Addr} {c d c4 d4 : Nat}
theorem QD.after (h5 : QB w vc xc i k W5) (hB : ∀ b, P0 b → b < w.heap.size) (h0 : LiesIn P0 W5 y0 A4 c4 K4 d4) (h : LiesIn (fun b => P0 b ∨ Fresh W5.drew w6 b) w6 y A c K d ∧ Below W5.drew.heap.size W5.drew w6) :
    QD P0 w vc xc i k w6.heap.size y A c K d y0 A4 c4 K4 d4 (w6.alloc (.cells #[.int .i64 y.kind, .int .i64 y.int, .string y.text, .slice A y.items.length c, .slice K y.keys.length d] 27)) := by
  obtain ⟨hl, h6⟩ := h
  have hb : Below W5.heap.size W5 w6 := ⟨h6.os, h6.tape, h6.output, h6.size, h6.block⟩
  have hs := h5.size
  have h6s := hb.size
  refine ⟨(h5.on hb).on (below_al (Below.refl _ w6) _), BlockIs.new w6 _ _, LiesIn.keep (fun b o hlt => World.cell?_alloc_lt _ _ _ ?_) (fun b hb => hb.imp id fun hb => ⟨?_, ?_⟩) _ hl, LiesIn.keep (fun b o hlt => bcell (below_al hb _) b o (by have := hB b hlt; omega)) (fun _ h => h) y0 h0⟩
  · show b < w6.heap.size
    rcases (show P0 b ∨ Fresh W5.drew w6 b from hlt) with h | h
    · have := hB b h; omega
    · exact h.2
  · have := hb.1; have e : W5.drew.heap.size = W5.heap.size := rfl; omega
  · have := hb.2; simp; omega
theorem QD.ahead (h5 : QB w vc xc i k W5) (hB : ∀ b, P0 b → b < w.heap.size) (h0 : LiesIn P0 W5 y0 A4 c4 K4 d4) (h : LiesIn (fun b => P0 b ∨ Fresh (W5.drew.alloc (.cells zeroF 27)) w6 b) w6 y A c K d ∧ Below (W5.drew.alloc (.cells zeroF 27)).heap.size (W5.drew.alloc (.cells zeroF 27)) w6) :
    QD P0 w vc xc i k W5.heap.size y A c K d y0 A4 c4 K4 d4 (put5 w6 W5.heap.size 0 (.int .i64 y.kind) (.int .i64 y.int) (.string y.text) (.slice A y.items.length c) (.slice K y.keys.length d)) := by
  obtain ⟨hl, h6⟩ := h
  have hb1 : Below W5.heap.size W5 (W5.drew.alloc (.cells zeroF 27)) := below_al (Below.refl _ W5).drew _
  have hz1 : (W5.drew.alloc (.cells zeroF 27)).heap.size = W5.heap.size + 1 := by simp
  have hb : Below W5.heap.size W5 w6 := hb1.trans (h6.mono (by omega))
  have hs := h5.size
  have h6s := h6.size
  have hbox : BlockIs w6 W5.heap.size 27 zeroF := (show BlockIs (W5.drew.alloc (.cells zeroF 27)) W5.heap.size 27 zeroF from BlockIs.new W5.drew _ _).below h6 (by omega)
  have hp : Below W5.heap.size W5 (put5 w6 W5.heap.size 0 (.int .i64 y.kind) (.int .i64 y.int) (.string y.text) (.slice A y.items.length c) (.slice K y.keys.length d)) := below_put5 hb (Nat.le_refl _) _ _ _ _ _
  refine ⟨h5.on hp, ?_, LiesIn.keep (fun b o hlt => World.cell?_of_block (put5_heap _ _ _ _ _ _ _ _ ?_)) (fun b hb => hb.imp id fun hb => ⟨?_, ?_⟩) _ hl, LiesIn.keep (fun b o hlt => bcell hp b o (by have := hB b hlt; omega)) (fun _ h => h) y0 h0⟩
  · have := ((((hbox.set_ 0 (.int .i64 y.kind)).set_ 1 (.int .i64 y.int)).set_ 2 (.string y.text)).set_ 3 (.slice A y.items.length c)).set_ 4 (.slice K y.keys.length d)
    simpa [put5, zeroF] using this
  · show b ≠ W5.heap.size
    rcases (show P0 b ∨ Fresh _ w6 b from hlt) with h | h
    · have := hB b h; omega
    · have := h.1; omega
  · have := hb.1; omega
  · rw [put5_size]; exact hb.2
end
/-- Another error from within. -/
theorem QD.bad {P0 : Nat → Prop} {g : Nat} {w W : World} {vc xc : Array Value} {i : Int} {k : ByteArray} {y y0 : V} {A K A4 K4 : Option Addr} {c d c4 d4 : Nat} {u0 u1 u2 u3 u4 : Value} (h : QD P0 w vc xc i k g y A c K d y0 A4 c4 K4 d4 W) (r : Int) :
    RefPQ P0 (nullV, r) w (.returned (.tuple #[aggOf (leaf 0 0 ⟨#[]⟩) none 0 none 0, .int .i64 r])) (put5 W (w.heap.size + 2) 0 u0 u1 u2 u3 u4) := h.qb.badQ r
theorem RefPQ.end_ {P0 : Nat → Prop} {z : V} {w w' : World} {A K : Option Addr} {c d : Nat} (h : LiesIn P0 w z A c K d) (hB : ∀ b, P0 b → b < w.heap.size) (hb : Below w.heap.size w w') : RefPQ P0 (z, 0) w (.returned (.tuple #[aggOf z A c K d, .int .i64 0])) w' :=
  ⟨A, c, K, d, rfl, LiesIn.keep (fun b o hlt => bcell hb b o (hB b hlt)) (fun _ hb => .inl hb) z h, hb⟩
theorem QB.goodLQ {w W : World} {vc xc : Array Value} {i : Int} {k : ByteArray} {P0 : Nat → Prop} {n m : Nat} {u0 u1 u2 u3 u4 : Value} {l : List V} {A : Option Addr} (h : QB w vc xc i k W) (hB : ∀ b, P0 b → b < w.heap.size) (hn : l.length = n) (hl : LiesIn (fun b => P0 b ∨ (w.heap.size + 4 ≤ b ∧ b < W.heap.size)) W (.mk 4 0 ⟨#[]⟩ l []) A m none 0) :
    RefPQ P0 (.mk 4 0 ⟨#[]⟩ l [], 0) w (.returned (.tuple #[.agg #[.int .i64 4, .int .i64 0, .string ⟨#[]⟩, .slice A n m, .slice none 0 0], .int .i64 0])) (put5 W (w.heap.size + 2) 0 u0 u1 u2 u3 u4) := by
  subst hn
  exact h.goodQ hB hl
/-- An item, or null. -/
theorem item_orQ (P0 : Nat → Prop) (x : V) (s : Stp) (w : World) (A K : Option Addr) (c d : Nat) (hBw : ∀ b, P0 b → b < w.heap.size) (h : LiesIn P0 w x A c K d) (hok : x.ok = true) :
    Calls Tryz.prog 37 #[aggOf x A c K d, stepV s] w fun e w' => ∃ A c K d b, e = .returned (.tuple #[aggOf ((itemV x s).getD nullV) A c K d, .bool b]) ∧ LiesIn P0 w' ((itemV x s).getD nullV) A c K d ∧ Below w.heap.size w w' := by
  refine (item_in P0 x s w A K c d hBw h hok).mono ?_
  rintro e w' ⟨hb, he⟩
  cases hi : itemV x s with
  | none =>
    rw [hi] at he
    exact ⟨none, 0, none, 0, false, he, lies_leaf _ _ 0 0 _ (by decide), hb⟩
  | some y =>
    rw [hi] at he
    obtain ⟨A, c, K, d, he, hl⟩ := he
    exact ⟨A, c, K, d, true, he, hl, hb⟩
set_option maxRecDepth 100000 in
set_option maxHeartbeats 1000000 in
theorem refPutQ_end (P0 : Nat → Prop) (x z : V) (w : World) (A K : Option Addr) (c d : Nat) (Ap : Option Addr) (cp : Nat) (Az Kz : Option Addr) (cz dz : Nat) (hB : ∀ b, P0 b → b < w.heap.size) (hz : LiesIn P0 w z Az cz Kz dz) :
    Calls Tryz.prog 23 #[.agg #[.int .i64 x.kind, .int .i64 x.int, .string x.text, .slice A x.items.length c, .slice K x.keys.length d], .slice Ap 0 cp, .agg #[.int .i64 z.kind, .int .i64 z.int, .string z.text, .slice Az z.items.length cz, .slice Kz z.keys.length dz]] w (RefPQ P0 (putR x [] z) w) := by
  have HZ := Lib.hid hz
  have HB := Lib.hid hB
  rw [show putR x [] z = (z, 0) by simp [putR, putV]]
  clear hz hB
  go_enter Tryz.func23, Tryz.ntmps23
  go_wp2_with fail
  refine bodyPost_ret (v := .tuple #[aggOf z Az cz Kz dz, .int .i64 0]) (by simp [results, Tryz.results23, go_sem, aggOf]) rfl ?_
  exact RefPQ.end_ HZ.out HB.out (below_al (below_al (below_al (Below.refl _ w) _) _) _)
open Go.RowKit
set_option maxRecDepth 100000 in
set_option maxHeartbeats 16000000 in
theorem refPutQ_step (P0 : Nat → Prop) (x z : V) (i : Int) (k : ByteArray) (r : List Stp) (w : World) (A K : Option Addr) (c d : Nat) (Ap : Option Addr) (cp : Nat) (Az Kz : Option Addr) (cz dz : Nat)
    (hB : ∀ b, P0 b → b < w.heap.size) (hx : LiesIn P0 w x A c K d) (hp : PLies w w.heap.size Ap cp ((i, k) :: r)) (hz : LiesIn P0 w z Az cz Kz dz) (hok : x.ok = true) (hn : x.nodes ≤ 10000) (hs : stepB (i, k) = true)
    (ih : ∀ y : V, y.ok = true → y.nodes ≤ 10000 → ∀ (w : World) (A K : Option Addr) (c d : Nat) (Ap : Option Addr) (cp : Nat), (∀ b, P0 b → b < w.heap.size) → LiesIn P0 w y A c K d → PLies w w.heap.size Ap cp r → LiesIn P0 w z Az cz Kz dz →
      Calls Tryz.prog 23 #[.agg #[.int .i64 y.kind, .int .i64 y.int, .string y.text, .slice A y.items.length c, .slice K y.keys.length d], .slice Ap r.length cp, .agg #[.int .i64 z.kind, .int .i64 z.int, .string z.text, .slice Az z.items.length cz, .slice Kz z.keys.length dz]] w (RefPQ P0 (putR y r z) w)) :
    Calls Tryz.prog 23 #[.agg #[.int .i64 x.kind, .int .i64 x.int, .string x.text, .slice A x.items.length c, .slice K x.keys.length d], .slice Ap (r.length + 1) cp, .agg #[.int .i64 z.kind, .int .i64 z.int, .string z.text, .slice Az z.items.length cz, .slice Kz z.keys.length dz]] w (RefPQ P0 (putR x ((i, k) :: r) z) w) := by
  obtain ⟨hp1, hp2, hp3⟩ := hp
  obtain ⟨b, o, rfl, hb, hf⟩ : ∃ b o, Ap = some ⟨b, o, none⟩ ∧ b < w.heap.size ∧ StepsFrom w ((i, k) :: r) b o := by
    rcases hp3 with h | h
    · simp at h
    · exact h
  have hcp : r.length + 1 ≤ cp := by simpa using hp1
  unfold maxLen at hp2
  obtain ⟨e0, e1, hks, hrest⟩ := hf
  obtain ⟨y0, hy0⟩ : ∃ y0, y0 = kindV x (i, k) := ⟨_, rfl⟩
  obtain ⟨q, hq⟩ : ∃ q, q = putR x ((i, k) :: r) z := ⟨_, rfl⟩
  rw [← hq]
  have HP := Lib.hid fun W (hW : Below w.heap.size w W) => show PLies W W.heap.size (some ⟨b, o + 2, none⟩) (cp - 1) r from ⟨by omega, by unfold maxLen; omega, .inr ⟨b, o + 2, rfl, by have := hW.size; omega, hrest.keep fun o => bcell hW b o hb⟩⟩
  have HX := Lib.hid fun W (hW : Below w.heap.size w W) => show LiesIn P0 W x A c K d from LiesIn.keep (fun b o hlt => bcell hW b o (hB b hlt)) (fun _ h => h) x hx
  have HZ := Lib.hid fun W (hW : Below w.heap.size w W) => show LiesIn P0 W z Az cz Kz dz from LiesIn.keep (fun b o hlt => bcell hW b o (hB b hlt)) (fun _ h => h) z hz
  have HB := Lib.hid hB
  have HQ := Lib.hid hq
  have HY0 := Lib.hid hy0
  have HOK := Lib.hid (And.intro hok (And.intro hn hs))
  have HKS := Lib.hid hks
  have HNUL := Lib.hid fun h0 => kindV_null hok h0 (i, k)
  have HNOT := Lib.hid fun (h0 : ¬ x.kind = 0) => (show kindV x (i, k) = x by unfold kindV; rw [if_neg h0])
  have hr0 : (0 : Int) < (r.length : Int) + 1 := by omega
  have hr1 : (1 : Int) ≤ (r.length : Int) + 1 := by omega
  have hr2 : (r.length : Int) + 1 ≤ cp := by omega
  have hr3 : (1 : Int) ≤ cp := by omega
  have hrz : ((r.length : Int) + 1 == 0) = false := by rw [beq_eq_false_iff_ne]; omega
  have HIH := Lib.hid ih
  obtain ⟨W1, hW1⟩ : ∃ W1, W1 = ((w.alloc (.cells #[.int .i64 x.kind, .int .i64 x.int, .string x.text, .slice A x.items.length c, .slice K x.keys.length d] 27)).alloc (.cells #[.int .i64 z.kind, .int .i64 z.int, .string z.text, .slice Az z.items.length cz, .slice Kz z.keys.length dz] 27)).alloc (.cells #[.int .i64 0, .int .i64 0, .string ⟨#[]⟩, .slice none 0 0, .slice none 0 0] 27) := ⟨_, rfl⟩
  have HQ0 := QB.start w #[.int .i64 x.kind, .int .i64 x.int, .string x.text, .slice A x.items.length c, .slice K x.keys.length d] #[.int .i64 z.kind, .int .i64 z.int, .string z.text, .slice Az z.items.length cz, .slice Kz z.keys.length dz] i k
  have hs1 : W1.heap.size = w.heap.size + 3 := by rw [hW1]; simp
  rw [show zeroF = #[.int .i64 0, .int .i64 0, .string ⟨#[]⟩, .slice none 0 0, .slice none 0 0] from rfl, ← hW1] at HQ0
  replace HQ0 := Lib.hid HQ0
  have hb1 : Below w.heap.size w W1 := by rw [hW1]; exact below_al (below_al (below_al (Below.refl _ w) _) _) _
  have e0' : W1.cell? ⟨b, o, none⟩ = some (.int .i64 i) := (bcell hb1 b o hb).trans e0
  have e1' : W1.cell? ⟨b, o + 1, none⟩ = some (.string k) := (bcell hb1 b (o + 1) hb).trans e1
  have v0 : W1.cell? ⟨w.heap.size, 0, none⟩ = some (.int .i64 x.kind) := by rw [hW1]; exact (((BlockIs.new w _ _).alloc _).alloc _).cell 0
  have HW1 := Lib.hid hW1
  have HB1 := Lib.hid hb1
  clear hb1 e0 e1 hW1
  clear hx hp1 hp3 hz hok hn hs ih hq hy0 hB hks hrest
  go_enter Tryz.func23, Tryz.ntmps23
  go_upto_region 1 with (fail)
  rw [← HW1.out]
  go_upto_if 23 with (fail)
  obtain ⟨W2, hW2⟩ : ∃ W2, W2 = W1.alloc (.cells #[.int .i64 i, .string k] 34) := ⟨_, rfl⟩
  rw [← hW2] at HQ0 ⊢
  clear e0' e1' v0 HW1 HB1 hs1 hW2 hb
  go_cut [] from 21 to 107 (fun wc => ∃ (A4 K4 : Option Addr) (c4 d4 : Nat), Hid (QB w #[.int .i64 y0.kind, .int .i64 y0.int, .string y0.text, .slice A4 y0.items.length c4, .slice K4 y0.keys.length d4] #[.int .i64 z.kind, .int .i64 z.int, .string z.text, .slice Az z.items.length cz, .slice Kz z.keys.length dz] i k wc) ∧ Hid (LiesIn P0 wc y0 A4 c4 K4 d4))
  case first =>
    obtain ⟨v0, v1, v2, v3, v4⟩ := five_of HQ0.out.bv
    have vl := HQ0.out.bv.lt
    by_cases h0 : x.kind = 0
    · have h0b : (x.kind == 0) = true := by simp [h0]
      have HN := Lib.hid (HY0.out.trans (HNUL.out h0))
      clear HNUL HNOT h0
      go_wp2_with fail
      refine (refObject_any none none 0 0 0 0 _).mono ?_
      rintro e w1 ⟨rfl, h1⟩
      have HQ1 := Lib.hid (HQ0.out.on h1)
      clear h1 v0 v1 v2 v3 v4 vl HQ0
      obtain ⟨v0, v1, v2, v3, v4⟩ := five_of HQ1.out.bv
      obtain ⟨f0, f1, f2, f3, f4⟩ : (w1.frozen? ⟨w.heap.size, 0, none⟩ = false ∧ w1.frozen? ⟨w.heap.size, 1, none⟩ = false ∧ w1.frozen? ⟨w.heap.size, 2, none⟩ = false ∧ w1.frozen? ⟨w.heap.size, 3, none⟩ = false ∧ w1.frozen? ⟨w.heap.size, 4, none⟩ = false) := ⟨HQ1.out.bv.frozen 0, HQ1.out.bv.frozen 1, HQ1.out.bv.frozen 2, HQ1.out.bv.frozen 3, HQ1.out.bv.frozen 4⟩
      have s0 : w1.cell? ⟨w.heap.size + 3, 0, none⟩ = some (.int .i64 i) := HQ1.out.bs.cell 0
      have vl := HQ1.out.bv.lt
      by_cases hi : i < 0
      · have HS := Lib.hid (HN.out.trans (by rw [holderS, if_pos hi] : leaf (holderS (i, k)) 0 ⟨#[]⟩ = leaf 5 0 ⟨#[]⟩))
        go_wp2_with fail
        go_meet
        case rel =>
          refine ⟨none, none, 0, 0, Lib.hid ?_, Lib.hid ?_⟩
          · have := HQ1.out.setv (u0 := .int .i64 5) (u1 := .int .i64 0) (u2 := .string ⟨#[]⟩) (u3 := .slice none 0 0) (u4 := .slice none 0 0)
            rw [HS.out]
            exact this
          · rw [HS.out]; exact lies_leaf _ _ 5 0 _ (by decide)
      · have HS := Lib.hid (HN.out.trans (by rw [holderS, if_neg hi] : leaf (holderS (i, k)) 0 ⟨#[]⟩ = leaf 4 0 ⟨#[]⟩))
        go_wp2_with fail
        refine (refList_any none 0 0 _).mono ?_
        rintro e w2 ⟨rfl, h2⟩
        have HQ2 := Lib.hid ((HQ1.out.setv (u0 := .int .i64 5) (u1 := .int .i64 0) (u2 := .string ⟨#[]⟩) (u3 := .slice none 0 0) (u4 := .slice none 0 0)).on h2)
        clear h2 v0 v1 v2 v3 v4 f0 f1 f2 f3 f4 s0 vl HQ1
        obtain ⟨v0, v1, v2, v3, v4⟩ := five_of HQ2.out.bv
        obtain ⟨f0, f1, f2, f3, f4⟩ : (w2.frozen? ⟨w.heap.size, 0, none⟩ = false ∧ w2.frozen? ⟨w.heap.size, 1, none⟩ = false ∧ w2.frozen? ⟨w.heap.size, 2, none⟩ = false ∧ w2.frozen? ⟨w.heap.size, 3, none⟩ = false ∧ w2.frozen? ⟨w.heap.size, 4, none⟩ = false) := ⟨HQ2.out.bv.frozen 0, HQ2.out.bv.frozen 1, HQ2.out.bv.frozen 2, HQ2.out.bv.frozen 3, HQ2.out.bv.frozen 4⟩
        have vl := HQ2.out.bv.lt
        go_wp2_with fail
        go_meet
        case rel =>
          refine ⟨none, none, 0, 0, Lib.hid ?_, Lib.hid ?_⟩
          · have := HQ2.out.setv (u0 := .int .i64 4) (u1 := .int .i64 0) (u2 := .string ⟨#[]⟩) (u3 := .slice none 0 0) (u4 := .slice none 0 0)
            rw [HS.out]
            exact this
          · rw [HS.out]; exact lies_leaf _ _ 4 0 _ (by decide)
    · have h0b : (x.kind == 0) = false := by simp [h0]
      have HN := Lib.hid (HY0.out.trans (HNOT.out h0))
      clear HNUL HNOT h0
      go_wp2_with fail
      go_meet
      case rel =>
        refine ⟨A, K, c, d, ?_, ?_⟩
        · rw [HN.out]; exact HQ0
        · rw [HN.out]; exact Lib.hid (HX.out _ HQ0.out.old)
  case rest =>
    obtain ⟨A4, K4, c4, d4, HQ4, HL4⟩ := hcut
    clear HQ0 HNUL HNOT HX
    obtain ⟨v0, v1, v2, v3, v4⟩ := five_of HQ4.out.bv
    have s0 : wc.cell? ⟨w.heap.size + 3, 0, none⟩ = some (.int .i64 i) := HQ4.out.bs.cell 0
    have s1 : wc.cell? ⟨w.heap.size + 3, 1, none⟩ = some (.string k) := HQ4.out.bs.cell 1
    obtain ⟨g0, g1, g2, g3, g4⟩ : (wc.frozen? ⟨w.heap.size + 2, 0, none⟩ = false ∧ wc.frozen? ⟨w.heap.size + 2, 1, none⟩ = false ∧ wc.frozen? ⟨w.heap.size + 2, 2, none⟩ = false ∧ wc.frozen? ⟨w.heap.size + 2, 3, none⟩ = false ∧ wc.frozen? ⟨w.heap.size + 2, 4, none⟩ = false) := ⟨HQ4.out.br.frozen 0, HQ4.out.br.frozen 1, HQ4.out.br.frozen 2, HQ4.out.br.frozen 3, HQ4.out.br.frozen 4⟩
    obtain ⟨r0, r1, r2, r3, r4⟩ := five_of HQ4.out.br
    have vl := HQ4.out.size
    by_cases h1 : y0.kind = holderS (i, k)
    focus
      by_cases hgt : i > y0.items.length
      · have HE := Lib.hid (HQ.out.trans (putR_arg (z := z) (r := r) (s := (i, k)) (by rw [← HY0.out]; exact h1) (by show i > _; rw [show x.items = (kindV x (i, k)).items by unfold kindV; split <;> rfl, ← HY0.out]; exact hgt)))
        have hi : ¬ i < 0 := by omega
        have hk : (y0.kind != 4) = false := by rw [holderS, if_neg hi] at h1; simp [h1]
        have hi2 : decide (0 ≤ i) = true := by simp; omega
        have hi3 : decide ((y0.items.length : Int) < i) = true := by simp; omega
        clear h1
        go_wp2_with fail
        refine bodyPost_ret (v := .tuple #[aggOf (leaf 0 0 ⟨#[]⟩) none 0 none 0, .int .i64 3]) (by simp [results, Tryz.results23, go_sem, aggOf, leaf, V.kind, V.int, V.text, V.items, V.keys, r0, r1, r2, r3, r4]) rfl ?_
        rw [HE.out]
        exact HQ4.out.badQ 3
      · have hk4 : decide (0 ≤ i) = true → (y0.kind != 4) = false := fun h => by rw [holderS, if_neg (by simp at h; omega)] at h1; simp [h1]
        have hk5 : decide (0 ≤ i) = false → (y0.kind != 5) = false := fun h => by rw [holderS, if_pos (by simp at h; omega)] at h1; simp [h1]
        have hi3 : decide ((y0.items.length : Int) < i) = false := by simp; omega
        obtain ⟨old, hold⟩ : ∃ old, old = (itemV y0 (i, k)).getD nullV := ⟨_, rfl⟩
        have hold2 : old = (itemV x (i, k)).getD nullV := by rw [hold, HY0.out, kindV_item (fit_of HOK.out.1)]
        obtain ⟨y, er, hq6⟩ : ∃ y er, putR old r z = (y, er) := ⟨_, _, rfl⟩
        have HE := Lib.hid (show q = if er = 0 then (newR x (i, k) y, 0) else (nullV, er) by
          rw [HQ.out, putR_cons HOK.out.1 HOK.out.2.2 (by rw [← HY0.out]; exact h1) (by show ¬ i > _; rw [show x.items = (kindV x (i, k)).items by unfold kindV; split <;> rfl, ← HY0.out]; exact hgt), ← hold2, hq6])
        have hyok : y0.ok = true := by rw [HY0.out]; exact kindV_ok HOK.out.1 _ (by rw [← HY0.out]; exact h1)
        have holdok : old.ok = true ∧ old.nodes ≤ 10000 := by
          rw [hold2]
          cases hi : itemV x (i, k) with
          | none => exact (by decide : nullV.ok = true ∧ nullV.nodes ≤ 10000)
          | some u => exact ⟨okItems HOK.out.1 u (item_mem hi), by have := V.nodes_mem (item_mem hi); have := nodes_items x; have := HOK.out.2.1; simp only [Option.getD_some]; omega⟩
        have HC := Lib.hid (show Calls Tryz.prog 37 #[.agg #[.int .i64 y0.kind, .int .i64 y0.int, .string y0.text, .slice A4 y0.items.length c4, .slice K4 y0.keys.length d4], .agg #[.int .i64 i, .string k]] wc fun e w' => ∃ A c K d b, e = .returned (.tuple #[aggOf old A c K d, .bool b]) ∧ LiesIn P0 w' old A c K d ∧ Below wc.heap.size wc w' from by
          have := item_orQ P0 y0 (i, k) wc A4 K4 c4 d4 (fun b hb => by have := HB.out b hb; omega) HL4.out hyok
          rw [← hold] at this
          exact this)
        have HCP := Lib.hid fun W A c K d (hW : Below w.heap.size w W) (hl : LiesIn P0 W old A c K d) => show Calls Tryz.prog 23 #[.agg #[.int .i64 old.kind, .int .i64 old.int, .string old.text, .slice A old.items.length c, .slice K old.keys.length d], .slice (some ⟨b, o + 2, none⟩) r.length (cp - 1), .agg #[.int .i64 z.kind, .int .i64 z.int, .string z.text, .slice Az z.items.length cz, .slice Kz z.keys.length dz]] W (RefPQ P0 (y, er) W) from by
          rw [← hq6]
          exact HIH.out old holdok.1 holdok.2 W A K c d _ _ (fun b hb => by have := HB.out b hb; have := hW.size; omega) hl (HP.out W hW) (HZ.out W hW)
        have HCP1 := Lib.hid fun (h0 : r = []) W A c K d (hW : Below w.heap.size w W) (hl : LiesIn P0 W old A c K d) => show Calls Tryz.prog 23 #[.agg #[.int .i64 old.kind, .int .i64 old.int, .string old.text, .slice A old.items.length c, .slice K old.keys.length d], .slice (some ⟨b, o, none⟩) r.length 0, .agg #[.int .i64 z.kind, .int .i64 z.int, .string z.text, .slice Az z.items.length cz, .slice Kz z.keys.length dz]] W (RefPQ P0 (y, er) W) from by
          rw [← hq6]
          exact HIH.out old holdok.1 holdok.2 W A K c d (some ⟨b, o, none⟩) 0 (fun b hb => by have := HB.out b hb; have := hW.size; omega) hl ⟨by rw [h0]; exact Nat.le_refl _, by simp [maxLen], .inl h0⟩ (HZ.out W hW)
        have hil : y0.items = x.items := by rw [HY0.out]; unfold kindV; split <;> rfl
        have HLEN := Lib.hid (show y0.items.length ≤ 10000 by rw [hil]; have := nodes_items x; have := length_le_nodesL x.items; have := HOK.out.2.1; omega)
        have HNEW := Lib.hid (And.intro (show i < 0 → newR x (i, k) y = .mk 5 0 ⟨#[]⟩ (withK k y false y0.keys y0.items).2 (withK k y false y0.keys y0.items).1 from fun h => by unfold newR; rw [if_pos h, HY0.out]) (show ¬ i < 0 → newR x (i, k) y = .mk 4 0 ⟨#[]⟩ (y0.items.take i.toNat ++ y :: y0.items.drop (i.toNat + 1)) [] from fun h => by unfold newR; rw [if_neg h, HY0.out]))
        have HYK := Lib.hid (And.intro hyok h1)
        have hkey : i < 0 → y0.kind = 5 := fun h => by rw [h1, holderS, if_pos h]
        have hlist : ¬ i < 0 → y0.kind = 4 := fun h => by rw [h1, holderS, if_neg h]
        have HKIND := Lib.hid (And.intro hkey hlist)
        have HGT := Lib.hid hgt
        clear hil hkey hlist hold hold2 hyok holdok hq6 hgt HIH HP h1 HY0
        have hcase : (decide (0 ≤ i) = true ∧ decide (i < 0) = false ∧ (y0.kind != 4) = false) ∨ (decide (0 ≤ i) = false ∧ decide (i < 0) = true ∧ (y0.kind != 5) = false) := by
          cases hd : decide (0 ≤ i)
          · exact .inr ⟨rfl, by simp at hd ⊢; omega, hk5 hd⟩
          · exact .inl ⟨rfl, by simp at hd ⊢; omega, hk4 hd⟩
        clear hk4 hk5
        go_upto_region 8 with (fail)
        go_cut [46] from 29 to 107 (fun b wx => b = .bool false ∧ wx = wc)
        case first =>
          rcases hcase with ⟨hi2, hi4, hk⟩ | ⟨hi2, hi4, hk⟩
          · go_wp2_with fail
            go_meet
            exact ⟨rfl, rfl⟩
          · go_wp2_with fail
            go_meet
            exact ⟨rfl, rfl⟩
        case rest =>
          obtain ⟨rfl, rfl⟩ := hcut
          go_wp2_with fail
          refine HC.out.mono ?_
          rintro e w5 ⟨Ao, co, Ko, do', bo, rfl, hlo, h5⟩
          have HQ5 := Lib.hid ((HQ4.out.on h5).on (below_al (Below.refl _ w5) (.cells #[.int .i64 old.kind, .int .i64 old.int, .string old.text, .slice Ao old.items.length co, .slice Ko old.keys.length do'] 27)))
          have HL5 := Lib.hid (show LiesIn P0 (w5.alloc (.cells #[.int .i64 old.kind, .int .i64 old.int, .string old.text, .slice Ao old.items.length co, .slice Ko old.keys.length do'] 27)) old Ao co Ko do' from LiesIn.keep (fun b o hlt => bcell (below_al (Below.refl _ w5) _) b o (by have := HB.out b hlt; have := HQ4.out.size; have := h5.size; omega)) (fun _ h => h) old hlo)
          have HLY := Lib.hid (LiesIn.keep (w' := w5.alloc (.cells #[.int .i64 old.kind, .int .i64 old.int, .string old.text, .slice Ao old.items.length co, .slice Ko old.keys.length do'] 27)) (fun b o hlt => bcell (below_al h5 _) b o (by have := HB.out b hlt; have := HQ4.out.size; omega)) (fun _ h => h) y0 HL4.out)
          have hw5 := h5.size
          clear h5 hlo HL4 HC v0 v1 v2 v3 v4 s0 s1 g0 g1 g2 g3 g4 r0 r1 r2 r3 r4
          unfold aggOf
          go_upto_region 13 with (fail)
          obtain ⟨W5, hW5⟩ : ∃ W5, W5 = w5.alloc (.cells #[.int .i64 old.kind, .int .i64 old.int, .string old.text, .slice Ao old.items.length co, .slice Ko old.keys.length do'] 27) := ⟨_, rfl⟩
          have HO5 := Lib.hid (show BlockIs W5 w5.heap.size 27 #[.int .i64 old.kind, .int .i64 old.int, .string old.text, .slice Ao old.items.length co, .slice Ko old.keys.length do'] by rw [hW5]; exact BlockIs.new w5 _ _)
          rw [← hW5] at HQ5 HL5 HLY ⊢
          clear hW5
          go_cut [11, 12] from 62 to 107 (fun p e12 wx => ∃ (g : Nat) (A6 K6 : Option Addr) (c6 d6 : Nat), p = .pointer (some ⟨g, 0, none⟩) ∧ e12 = .int .i64 er ∧ Hid (QD P0 w #[.int .i64 y0.kind, .int .i64 y0.int, .string y0.text, .slice A4 y0.items.length c4, .slice K4 y0.keys.length d4] #[.int .i64 z.kind, .int .i64 z.int, .string z.text, .slice Az z.items.length cz, .slice Kz z.keys.length dz] i k g y A6 c6 K6 d6 y0 A4 c4 K4 d4 wx))
          case first =>
            obtain ⟨o0, o1, o2, o3, o4⟩ := five_of HO5.out
            have ol := HO5.out.lt
            obtain ⟨z0, z1, z2, z3, z4⟩ := five_of HQ5.out.bx
            have zl := HQ5.out.bx.lt
            have HBd := Lib.hid (below_on HQ5.out.old (Below.refl _ W5).drew)
            have HLd := Lib.hid (LiesIn.keep (w := W5) (w' := W5.drew) (fun _ _ _ => rfl) (fun _ h => h) old HL5.out)
            have HBa := Lib.hid (below_al HBd.out (.cells #[.int .i64 0, .int .i64 0, .string ⟨#[]⟩, .slice none 0 0, .slice none 0 0] 27))
            have HLa := Lib.hid (LiesIn.keep (w := W5.drew) (w' := W5.drew.alloc (.cells #[.int .i64 0, .int .i64 0, .string ⟨#[]⟩, .slice none 0 0, .slice none 0 0] 27)) (fun b o hlt => bcell (below_al (Below.refl _ W5.drew) _) b o (by have := HB.out b hlt; have := HQ5.out.size; have : W5.drew.heap.size = W5.heap.size := rfl; omega)) (fun _ h => h) old HLd.out)
            clear hw5
            by_cases hc1 : cp = 1
            · have hrn : r = [] := by
                cases r with
                | nil => rfl
                | cons y q => simp at hcp; omega
              clear hcp
              subst hc1
              have HRN := Lib.hid hrn
              clear hrn
              go_region_with (first
                | (go_at_call 23; refine (HCP1.out HRN.out W5.drew Ao co Ko do' HBd.out HLd.out).mono ?_; rintro e w6 ⟨A6, c6, K6, d6, rfl, hl6, h6⟩; have HM6 := Lib.hid (And.intro hl6 h6); clear hl6 h6; unfold aggOf)
                | (go_at_call 23; refine (HCP1.out HRN.out (W5.drew.alloc (.cells #[.int .i64 0, .int .i64 0, .string ⟨#[]⟩, .slice none 0 0, .slice none 0 0] 27)) Ao co Ko do' HBa.out HLa.out).mono ?_; rintro e w6 ⟨A6, c6, K6, d6, rfl, hl6, h6⟩; have hbg := (show BlockIs w6 W5.heap.size 27 #[.int .i64 0, .int .i64 0, .string ⟨#[]⟩, .slice none 0 0, .slice none 0 0] from (BlockIs.new W5.drew 27 #[.int .i64 0, .int .i64 0, .string ⟨#[]⟩, .slice none 0 0, .slice none 0 0]).below h6 (by simp)); obtain ⟨g0, g1, g2, g3, g4⟩ := five_of hbg; have gl := BlockIs.lt hbg; have gf0 := BlockIs.frozen hbg 0; have gf1 := BlockIs.frozen hbg 1; have gf2 := BlockIs.frozen hbg 2; have gf3 := BlockIs.frozen hbg 3; have gf4 := BlockIs.frozen hbg 4; have HM6 := Lib.hid (And.intro hl6 h6); clear hl6 h6 hbg; unfold aggOf))
              all_goals
                go_wp2_with fail
                go_meet
                first
                  | exact ⟨_, A6, K6, c6, d6, rfl, rfl, Lib.hid (QD.after HQ5.out HB.out HLY.out HM6.out)⟩
                  | exact ⟨_, A6, K6, c6, d6, rfl, rfl, Lib.hid (QD.ahead HQ5.out HB.out HLY.out HM6.out)⟩
            · go_region_with (first
                | (go_at_call 23; refine (HCP.out W5.drew Ao co Ko do' HBd.out HLd.out).mono ?_; rintro e w6 ⟨A6, c6, K6, d6, rfl, hl6, h6⟩; have HM6 := Lib.hid (And.intro hl6 h6); clear hl6 h6; unfold aggOf)
                | (go_at_call 23; refine (HCP.out (W5.drew.alloc (.cells #[.int .i64 0, .int .i64 0, .string ⟨#[]⟩, .slice none 0 0, .slice none 0 0] 27)) Ao co Ko do' HBa.out HLa.out).mono ?_; rintro e w6 ⟨A6, c6, K6, d6, rfl, hl6, h6⟩; have hbg := (show BlockIs w6 W5.heap.size 27 #[.int .i64 0, .int .i64 0, .string ⟨#[]⟩, .slice none 0 0, .slice none 0 0] from (BlockIs.new W5.drew 27 #[.int .i64 0, .int .i64 0, .string ⟨#[]⟩, .slice none 0 0, .slice none 0 0]).below h6 (by simp)); obtain ⟨g0, g1, g2, g3, g4⟩ := five_of hbg; have gl := BlockIs.lt hbg; have gf0 := BlockIs.frozen hbg 0; have gf1 := BlockIs.frozen hbg 1; have gf2 := BlockIs.frozen hbg 2; have gf3 := BlockIs.frozen hbg 3; have gf4 := BlockIs.frozen hbg 4; have HM6 := Lib.hid (And.intro hl6 h6); clear hl6 h6 hbg; unfold aggOf))
              all_goals
                go_wp2_with fail
                go_meet
                first
                  | exact ⟨_, A6, K6, c6, d6, rfl, rfl, Lib.hid (QD.after HQ5.out HB.out HLY.out HM6.out)⟩
                  | exact ⟨_, A6, K6, c6, d6, rfl, rfl, Lib.hid (QD.ahead HQ5.out HB.out HLY.out HM6.out)⟩
          case rest =>
            obtain ⟨g6, A6, K6, c6, d6, rfl, rfl, HC6⟩ := hcut
            clear HQ5 HL5 HLY HO5 HCP HCP1 HQ4 HZ
            obtain ⟨v0, v1, v2, v3, v4⟩ := five_of HC6.out.qb.bv
            obtain ⟨y0', y1, y2, y3, y4⟩ := five_of HC6.out.box
            obtain ⟨r0, r1, r2, r3, r4⟩ := five_of HC6.out.qb.br
            obtain ⟨f0, f1, f2, f3, f4⟩ : (wc.frozen? ⟨w.heap.size + 2, 0, none⟩ = false ∧ wc.frozen? ⟨w.heap.size + 2, 1, none⟩ = false ∧ wc.frozen? ⟨w.heap.size + 2, 2, none⟩ = false ∧ wc.frozen? ⟨w.heap.size + 2, 3, none⟩ = false ∧ wc.frozen? ⟨w.heap.size + 2, 4, none⟩ = false) := ⟨HC6.out.qb.br.frozen 0, HC6.out.qb.br.frozen 1, HC6.out.qb.br.frozen 2, HC6.out.qb.br.frozen 3, HC6.out.qb.br.frozen 4⟩
            have s0 : wc.cell? ⟨w.heap.size + 3, 0, none⟩ = some (.int .i64 i) := HC6.out.qb.bs.cell 0
            have s1 : wc.cell? ⟨w.heap.size + 3, 1, none⟩ = some (.string k) := HC6.out.qb.bs.cell 1
            have gl := HC6.out.box.lt
            have vl := HC6.out.qb.bv.lt
            have sl := HC6.out.qb.bs.lt
            obtain ⟨P, hPd⟩ : ∃ P, P = fun b' => P0 b' ∨ (w.heap.size + 4 ≤ b' ∧ b' < wc.heap.size) := ⟨_, rfl⟩
            have hP1 : ∀ b', P0 b' → P b' := fun b' h => by rw [hPd]; exact .inl h
            have hP2 : ∀ b', P b' → b' < wc.heap.size := fun b' h => by
              rw [hPd] at h
              rcases h with h | h
              · have := HB.out b' h; omega
              · exact h.2
            have hP3 : ∀ W', wc.heap.size ≤ W'.heap.size → ∀ b', (P b' ∨ Fresh wc W' b') → P0 b' ∨ (w.heap.size + 4 ≤ b' ∧ b' < W'.heap.size) := fun W' hs b' h => by
              rcases h with h | h
              · rw [hPd] at h
                exact h.imp id fun h => ⟨h.1, by omega⟩
              · exact .inr ⟨by have := h.1; omega, h.2⟩
            have hly := HC6.out.ly
            rw [← hPd] at hly
            have HLY := Lib.hid hly
            have HPP := Lib.hid (And.intro hP1 (And.intro hP2 hP3))
            clear hPd hP1 hP2 hP3 hly
            by_cases her : er = 0
            · subst her
              by_cases hi : i < 0
              · have HA := Lib.hid (show q = (V.mk 5 0 ⟨#[]⟩ (withK k y false y0.keys y0.items).2 (withK k y false y0.keys y0.items).1, 0) by rw [HE.out, if_pos rfl, HNEW.out.1 hi])
                have HW := Lib.hid (with_walk P y0.kind y0.int y0.text y0.items y0.keys y k wc HPP.out.2.1 A4 K4 c4 d4 A6 K6 c6 d6 (by rw [mk_eta]; exact LiesIn.keep (fun _ _ _ => rfl) HPP.out.1 y0 HC6.out.l0) HLY.out ((okk HYK.out.1).2.2 (HKIND.out.1 hi)) (by have := HLEN.out; omega) HKS.out)
                clear HE HNEW HKIND HYK
                obtain ⟨nk, hnk⟩ : ∃ nk, nk = withK k y false y0.keys y0.items := ⟨_, rfl⟩
                rw [← hnk] at HA HW
                clear hnk
                go_wp2_with fail
                refine HW.out.mono ?_
                rintro e w7 ⟨A7, c7, K7, d7, rfl, hl7, h7⟩
                have HQ7 := Lib.hid (HC6.out.qb.on h7)
                have HL7 := Lib.hid (LiesIn.keep (fun _ _ _ => rfl) (HPP.out.2.2 w7 h7.size) _ hl7)
                clear h7 hl7 HC6 HW v0 v1 v2 v3 v4 y0' y1 y2 y3 y4 r0 r1 r2 r3 r4 f0 f1 f2 f3 f4 s0 s1 gl vl sl
                obtain ⟨r0, r1, r2, r3, r4⟩ := five_of HQ7.out.br
                obtain ⟨f0, f1, f2, f3, f4⟩ : (w7.frozen? ⟨w.heap.size + 2, 0, none⟩ = false ∧ w7.frozen? ⟨w.heap.size + 2, 1, none⟩ = false ∧ w7.frozen? ⟨w.heap.size + 2, 2, none⟩ = false ∧ w7.frozen? ⟨w.heap.size + 2, 3, none⟩ = false ∧ w7.frozen? ⟨w.heap.size + 2, 4, none⟩ = false) := ⟨HQ7.out.br.frozen 0, HQ7.out.br.frozen 1, HQ7.out.br.frozen 2, HQ7.out.br.frozen 3, HQ7.out.br.frozen 4⟩
                have rl := HQ7.out.br.lt
                unfold cellsOf
                go_wp2_with fail
                refine bodyPost_ret (v := .tuple #[aggOf (V.mk 5 0 ⟨#[]⟩ nk.2 nk.1) A7 c7 K7 d7, .int .i64 0]) (by simp [results, Tryz.results23, go_sem, aggOf, V.kind, V.int, V.text, V.items, V.keys, r0, r1, r2, r3, r4]) rfl ?_
                rw [HA.out]
                exact HQ7.out.goodQ HB.out HL7.out
              · obtain ⟨n, hn⟩ := Int.eq_ofNat_of_zero_le (show 0 ≤ i by omega)
                subst hn
                have hnl : n ≤ y0.items.length := by have := HGT.out; omega
                have HA := Lib.hid (show q = (V.mk 4 0 ⟨#[]⟩ (y0.items.take n ++ y :: y0.items.drop (n + 1)) [], 0) by rw [HE.out, if_pos rfl, HNEW.out.2 (by omega)]; rfl)
                obtain ⟨v1', W1', v2', W2', hr1', hr2', ⟨B1, b1, rfl⟩, ⟨B2, b2, rfl⟩, hb1, hb2, hend, hgo⟩ := putLQ wc P HPP.out.2.1 y0.items y A4 c4 A6 K6 c6 d6 (inn_items (LiesIn.keep (fun _ _ _ => rfl) HPP.out.1 y0 HC6.out.l0)) HLY.out n hnl HLEN.out
                have HR := Lib.hid (And.intro hr1' hr2')
                have HGO := Lib.hid (And.intro hend hgo)
                have HBB := Lib.hid (And.intro hb1 hb2)
                have hc4 := (inn_items HC6.out.l0).1
                have hc5 := (inn_items HC6.out.l0).2.1
                clear hr1' hr2' hend hgo hb1 hb2 HE HNEW HKIND HYK
                have k0 : (0 : Int) ≤ n := by omega
                have k1 : (n : Int) ≤ y0.items.length := by omega
                have k2 : (y0.items.length : Int) ≤ c4 := by omega
                have k3 : (n : Int) ≤ c4 := by omega
                have k4 : ¬ ((n : Int) < 0) := by omega
                unfold maxLen at hc5
                have a0 := (bcell HBB.out.1 g6 0 gl).trans y0'
                have a1 := (bcell HBB.out.1 g6 1 gl).trans y1
                have a2 := (bcell HBB.out.1 g6 2 gl).trans y2
                have a3 := (bcell HBB.out.1 g6 3 gl).trans y3
                have a4 := (bcell HBB.out.1 g6 4 gl).trans y4
                have b0' := (bcell HBB.out.2 (w.heap.size + 3) 0 sl).trans s0
                have b3 := (bcell HBB.out.2 w.heap.size 3 vl).trans v3
                have gl1 : g6 < W1'.heap.size := by have := HBB.out.1.size; omega
                go_upto_region 19 with (at_builtin; refine Lib.wpList_append_run _ rfl _ _ _ _ rfl _ _ rfl rfl _ _ HR.out.1 ?_)
                go_upto_region 20 with (at_builtin; refine Lib.wpList_append_run _ rfl _ _ _ _ rfl _ _ rfl rfl _ _ HR.out.2 ?_)
                clear HR a0 a1 a2 a3 a4 v0 v1 v2 v3 v4 y0' y1 y2 y3 y4 r0 r1 r2 r3 r4 f0 f1 f2 f3 f4 s0 s1
                have vl2 : w.heap.size < W2'.heap.size := by have := HBB.out.2.size; omega
                have sl2 : w.heap.size + 3 < W2'.heap.size := by have := HBB.out.2.size; omega
                by_cases hnl2 : n < y0.items.length
                · have k5 : (n : Int) < y0.items.length := by omega
                  have k6 : (n : Int) + 1 ≤ y0.items.length := by omega
                  have k7 : (n : Int) + 1 ≤ c4 := by omega
                  have k8 : (0 : Int) ≤ (n : Int) + 1 := by omega
                  have hw : IntKind.i64.wrap ((n : Int) + 1) = (n : Int) + 1 := by rw [IntKind.wrap_i64]; have := HLEN.out; omega
                  obtain ⟨bb, oo, rfl⟩ : ∃ bb oo, A4 = some ⟨bb, oo, none⟩ := by
                    rcases (inn_items HC6.out.l0).2.2 with h | ⟨bb, oo, h, -⟩
                    · rw [h] at hnl2; simp at hnl2
                    · exact ⟨bb, oo, h⟩
                  by_cases hcc : c4 = n + 1
                  · have hm0 : y0.items.length - (n + 1) = 0 := by omega
                    obtain ⟨v3', W3', hr3, ⟨B3, b3', rfl⟩, hb3, hmade⟩ := HGO.out.2 hnl2 (some ⟨bb, oo, none⟩) (.inl hm0)
                    subst hcc
                    rw [hm0, Nat.sub_self] at hr3
                    have HR := Lib.hid hr3
                    have HM := Lib.hid (And.intro hb3 hmade)
                    have HM0 := Lib.hid hm0
                    clear hr3 hb3 hmade HGO
                    go_upto_region 22 with (at_builtin; refine Lib.wpList_append_run _ rfl _ _ _ _ rfl _ _ rfl rfl _ _ HR.out ?_)
                    clear hm0 k0 k1 k2 k3 k4 k5 k6 k7 k8 hw
                    have HQ7 := Lib.hid (HC6.out.qb.on HM.out.1)
                    obtain ⟨A7, c7, e7, hl7⟩ := Made.lies HM.out.2
                    replace hl7 := LiesIn.keep (fun _ _ _ => rfl) (HPP.out.2.2 W3' (HM.out.1).size) _ hl7
                    rw [show (y0.items.take n ++ y :: y0.items.drop (n + 1)).length = y0.items.length by rw [List.length_append, List.length_cons, List.length_take, List.length_drop]; omega] at e7
                    cases e7
                    have HL7 := Lib.hid hl7
                    clear hl7 HC6 b0' b3 vl2 sl2 gl gl1 vl sl
                    obtain ⟨l3, hl3⟩ : ∃ l3, l3 = y0.items.take n ++ y :: y0.items.drop (n + 1) := ⟨_, rfl⟩
                    have HLL := Lib.hid (show l3.length = y0.items.length by rw [hl3, List.length_append, List.length_cons, List.length_take, List.length_drop]; omega)
                    rw [← hl3] at HL7 HA
                    clear hl3
                    go_wp2_with fail
                    refine (refList_any _ _ _ _).mono ?_
                    rintro e w8 ⟨rfl, h8⟩
                    have HQ8 := Lib.hid (HQ7.out.on h8)
                    have HL8 := Lib.hid (LiesIn.keep (P' := fun b' => P0 b' ∨ (w.heap.size + 4 ≤ b' ∧ b' < w8.heap.size)) (fun b' o hb => bcell h8 b' o (by rcases hb with hb | hb; have := HB.out _ hb; have := HQ7.out.size; omega; exact hb.2)) (fun b' hb => hb.imp id fun hb => ⟨hb.1, by have := h8.size; omega⟩) _ HL7.out)
                    clear h8 HQ7 HL7
                    obtain ⟨r0, r1, r2, r3, r4⟩ := five_of HQ8.out.br
                    obtain ⟨f0, f1, f2, f3, f4⟩ : (w8.frozen? ⟨w.heap.size + 2, 0, none⟩ = false ∧ w8.frozen? ⟨w.heap.size + 2, 1, none⟩ = false ∧ w8.frozen? ⟨w.heap.size + 2, 2, none⟩ = false ∧ w8.frozen? ⟨w.heap.size + 2, 3, none⟩ = false ∧ w8.frozen? ⟨w.heap.size + 2, 4, none⟩ = false) := ⟨HQ8.out.br.frozen 0, HQ8.out.br.frozen 1, HQ8.out.br.frozen 2, HQ8.out.br.frozen 3, HQ8.out.br.frozen 4⟩
                    have rl := HQ8.out.br.lt
                    go_wp2_with fail
                    refine bodyPost_ret (v := .tuple #[.agg #[.int .i64 4, .int .i64 0, .string ⟨#[]⟩, .slice B3 (y0.items.length) b3', .slice none 0 0], .int .i64 0]) (by simp [results, Tryz.results23, go_sem, r0, r1, r2, r3, r4]) rfl ?_
                    rw [HA.out]
                    exact HQ8.out.goodLQ HB.out HLL.out HL8.out
                  · obtain ⟨v3', W3', hr3, ⟨B3, b3', rfl⟩, hb3, hmade⟩ := HGO.out.2 hnl2 (some ⟨bb, oo + (n + 1) * 5, none⟩) (.inr ⟨bb, oo, rfl, rfl⟩)
                    have HR := Lib.hid hr3
                    have HM := Lib.hid (And.intro hb3 hmade)
                    clear hr3 hb3 hmade HGO
                    go_upto_region 22 with (at_builtin; refine Lib.wpList_append_run _ rfl _ _ _ _ rfl _ _ rfl rfl _ _ HR.out ?_)
                    clear k0 k1 k2 k3 k4 k5 k6 k7 k8 hw
                    have HQ7 := Lib.hid (HC6.out.qb.on HM.out.1)
                    obtain ⟨A7, c7, e7, hl7⟩ := Made.lies HM.out.2
                    replace hl7 := LiesIn.keep (fun _ _ _ => rfl) (HPP.out.2.2 W3' (HM.out.1).size) _ hl7
                    rw [show (y0.items.take n ++ y :: y0.items.drop (n + 1)).length = y0.items.length by rw [List.length_append, List.length_cons, List.length_take, List.length_drop]; omega] at e7
                    cases e7
                    have HL7 := Lib.hid hl7
                    clear hl7 HC6 b0' b3 vl2 sl2 gl gl1 vl sl
                    obtain ⟨l3, hl3⟩ : ∃ l3, l3 = y0.items.take n ++ y :: y0.items.drop (n + 1) := ⟨_, rfl⟩
                    have HLL := Lib.hid (show l3.length = y0.items.length by rw [hl3, List.length_append, List.length_cons, List.length_take, List.length_drop]; omega)
                    rw [← hl3] at HL7 HA
                    clear hl3
                    go_wp2_with fail
                    refine (refList_any _ _ _ _).mono ?_
                    rintro e w8 ⟨rfl, h8⟩
                    have HQ8 := Lib.hid (HQ7.out.on h8)
                    have HL8 := Lib.hid (LiesIn.keep (P' := fun b' => P0 b' ∨ (w.heap.size + 4 ≤ b' ∧ b' < w8.heap.size)) (fun b' o hb => bcell h8 b' o (by rcases hb with hb | hb; have := HB.out _ hb; have := HQ7.out.size; omega; exact hb.2)) (fun b' hb => hb.imp id fun hb => ⟨hb.1, by have := h8.size; omega⟩) _ HL7.out)
                    clear h8 HQ7 HL7
                    obtain ⟨r0, r1, r2, r3, r4⟩ := five_of HQ8.out.br
                    obtain ⟨f0, f1, f2, f3, f4⟩ : (w8.frozen? ⟨w.heap.size + 2, 0, none⟩ = false ∧ w8.frozen? ⟨w.heap.size + 2, 1, none⟩ = false ∧ w8.frozen? ⟨w.heap.size + 2, 2, none⟩ = false ∧ w8.frozen? ⟨w.heap.size + 2, 3, none⟩ = false ∧ w8.frozen? ⟨w.heap.size + 2, 4, none⟩ = false) := ⟨HQ8.out.br.frozen 0, HQ8.out.br.frozen 1, HQ8.out.br.frozen 2, HQ8.out.br.frozen 3, HQ8.out.br.frozen 4⟩
                    have rl := HQ8.out.br.lt
                    go_wp2_with fail
                    refine bodyPost_ret (v := .tuple #[.agg #[.int .i64 4, .int .i64 0, .string ⟨#[]⟩, .slice B3 (y0.items.length) b3', .slice none 0 0], .int .i64 0]) (by simp [results, Tryz.results23, go_sem, r0, r1, r2, r3, r4]) rfl ?_
                    rw [HA.out]
                    exact HQ8.out.goodLQ HB.out HLL.out HL8.out
                · have hnl3 : n = y0.items.length := by omega
                  have HM := Lib.hid (And.intro HBB.out.2 (HGO.out.1 hnl3))
                  clear hnl3
                  have k9 : ¬ ((n : Int) < y0.items.length) := by omega
                  go_upto_region 22 with (fail)
                  clear k0 k1 k2 k3 k4 k9
                  have HQ7 := Lib.hid (HC6.out.qb.on HM.out.1)
                  obtain ⟨A7, c7, e7, hl7⟩ := Made.lies HM.out.2
                  replace hl7 := LiesIn.keep (fun _ _ _ => rfl) (HPP.out.2.2 W2' (HM.out.1).size) _ hl7
                  rw [show (y0.items.take n ++ y :: y0.items.drop (n + 1)).length = n + 1 by rw [List.length_append, List.length_cons, List.length_take, List.length_drop]; omega] at e7
                  cases e7
                  have HL7 := Lib.hid hl7
                  clear hl7 HC6 b0' b3 vl2 sl2 gl gl1 vl sl
                  obtain ⟨l3, hl3⟩ : ∃ l3, l3 = y0.items.take n ++ y :: y0.items.drop (n + 1) := ⟨_, rfl⟩
                  have HLL := Lib.hid (show l3.length = n + 1 by rw [hl3, List.length_append, List.length_cons, List.length_take, List.length_drop]; omega)
                  rw [← hl3] at HL7 HA
                  clear hl3
                  go_wp2_with fail
                  refine (refList_any _ _ _ _).mono ?_
                  rintro e w8 ⟨rfl, h8⟩
                  have HQ8 := Lib.hid (HQ7.out.on h8)
                  have HL8 := Lib.hid (LiesIn.keep (P' := fun b' => P0 b' ∨ (w.heap.size + 4 ≤ b' ∧ b' < w8.heap.size)) (fun b' o hb => bcell h8 b' o (by rcases hb with hb | hb; have := HB.out _ hb; have := HQ7.out.size; omega; exact hb.2)) (fun b' hb => hb.imp id fun hb => ⟨hb.1, by have := h8.size; omega⟩) _ HL7.out)
                  clear h8 HQ7 HL7
                  obtain ⟨r0, r1, r2, r3, r4⟩ := five_of HQ8.out.br
                  obtain ⟨f0, f1, f2, f3, f4⟩ : (w8.frozen? ⟨w.heap.size + 2, 0, none⟩ = false ∧ w8.frozen? ⟨w.heap.size + 2, 1, none⟩ = false ∧ w8.frozen? ⟨w.heap.size + 2, 2, none⟩ = false ∧ w8.frozen? ⟨w.heap.size + 2, 3, none⟩ = false ∧ w8.frozen? ⟨w.heap.size + 2, 4, none⟩ = false) := ⟨HQ8.out.br.frozen 0, HQ8.out.br.frozen 1, HQ8.out.br.frozen 2, HQ8.out.br.frozen 3, HQ8.out.br.frozen 4⟩
                  have rl := HQ8.out.br.lt
                  go_wp2_with fail
                  refine bodyPost_ret (v := .tuple #[.agg #[.int .i64 4, .int .i64 0, .string ⟨#[]⟩, .slice B2 (n + 1) b2, .slice none 0 0], .int .i64 0]) (by simp [results, Tryz.results23, go_sem, r0, r1, r2, r3, r4]) rfl ?_
                  rw [HA.out]
                  exact HQ8.out.goodLQ HB.out HLL.out HL8.out
            · have HER := Lib.hid her
              have heb : (er != 0) = true := by simp [her]
              clear her v0 v1 v2 v3 v4 y0' y1 y2 y3 y4
              go_wp2_with fail
              refine bodyPost_ret (v := .tuple #[aggOf (leaf 0 0 ⟨#[]⟩) none 0 none 0, .int .i64 er]) (by simp [results, Tryz.results23, go_sem, aggOf, leaf, V.kind, V.int, V.text, V.items, V.keys, r0, r1, r2, r3, r4]) rfl ?_
              rw [HE.out, if_neg HER.out]
              exact HC6.out.bad er
    · have HE := Lib.hid (HQ.out.trans (putR_type (z := z) (r := r) (by rw [← HY0.out]; exact h1)))
      by_cases hi : i < 0
      · have hk : (y0.kind != 5) = true := by rw [holderS, if_pos hi] at h1; simp [h1]
        have hi2 : decide (0 ≤ i) = false := by simp; omega
        go_wp2_with fail
        refine bodyPost_ret (v := .tuple #[aggOf (leaf 0 0 ⟨#[]⟩) none 0 none 0, .int .i64 8]) (by simp [results, Tryz.results23, go_sem, aggOf, leaf, V.kind, V.int, V.text, V.items, V.keys, r0, r1, r2, r3, r4]) rfl ?_
        rw [HE.out]
        exact HQ4.out.badQ 8
      · have hk : (y0.kind != 4) = true := by rw [holderS, if_neg hi] at h1; simp [h1]
        have hi2 : decide (0 ≤ i) = true := by simp; omega
        go_wp2_with fail
        refine bodyPost_ret (v := .tuple #[aggOf (leaf 0 0 ⟨#[]⟩) none 0 none 0, .int .i64 8]) (by simp [results, Tryz.results23, go_sem, aggOf, leaf, V.kind, V.int, V.text, V.items, V.keys, r0, r1, r2, r3, r4]) rfl ?_
        rw [HE.out]
        exact HQ4.out.badQ 8
/-- A value laid at a path, as the specification says it, at a predicate of blocks. -/
theorem refPutQ_any (P0 : Nat → Prop) (z : V) (Az Kz : Option Addr) (cz dz : Nat) : ∀ (p : List Stp), p.all stepB = true → ∀ (x : V), x.ok = true → x.nodes ≤ 10000 → ∀ (w : World) (A K : Option Addr) (c d : Nat) (Ap : Option Addr) (cp : Nat), (∀ b, P0 b → b < w.heap.size) → LiesIn P0 w x A c K d → PLies w w.heap.size Ap cp p → LiesIn P0 w z Az cz Kz dz →
    Calls Tryz.prog 23 #[.agg #[.int .i64 x.kind, .int .i64 x.int, .string x.text, .slice A x.items.length c, .slice K x.keys.length d], .slice Ap p.length cp, .agg #[.int .i64 z.kind, .int .i64 z.int, .string z.text, .slice Az z.items.length cz, .slice Kz z.keys.length dz]] w (RefPQ P0 (putR x p z) w)
  | [], _, x, _, _, w, A, K, c, d, Ap, cp, hB, _, _, hz => refPutQ_end P0 x z w A K c d Ap cp Az Kz cz dz hB hz
  | (i, k) :: r, hp, x, hok, hn, w, A, K, c, d, Ap, cp, hB, hx, hl, hz => by
    rw [List.all_cons, Bool.and_eq_true] at hp
    exact refPutQ_step P0 x z i k r w A K c d Ap cp Az Kz cz dz hB hx hl hz hok hn hp.1 fun y hy1 hy2 w A K c d Ap cp h1 h2 h3 h4 => refPutQ_any P0 z Az Kz cz dz r hp.2 y hy1 hy2 w A K c d Ap cp h1 h2 h3 h4
end Go.Proofs.YtchadlbhdcpojaaGreatDoor
