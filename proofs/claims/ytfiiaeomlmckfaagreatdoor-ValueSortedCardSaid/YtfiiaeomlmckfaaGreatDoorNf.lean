/- Each of equal values once: the library's CompactFunc at rows of values, walked. -/
import Derived.Test.YtfiiaeomlmckfaaGreatDoorNd
namespace Go.Proofs.YtfiiaeomlmckfaaGreatDoor
open Go.RowKit

set_option maxHeartbeats 1000000 in
theorem equal_any (x y : V) (b : Bool) (hb : (x.cmp y == 0) = b) (w : World) (A K : Option Addr) (c d : Nat) (A' K' : Option Addr) (c' d' : Nat) (hx : x.ok = true) (hy : y.ok = true) (h : Lies w w.heap.size x A c K d) (h' : Lies w w.heap.size y A' c' K' d') :
    Calls Tryz.prog 28 #[.agg #[.int .i64 x.kind, .int .i64 x.int, .string x.text, .slice A x.items.length c, .slice K x.keys.length d], .agg #[.int .i64 y.kind, .int .i64 y.int, .string y.text, .slice A' y.items.length c', .slice K' y.keys.length d']] w fun e w' =>
      e = .returned (.bool b) ∧ Below w.heap.size w w' := by
  have HB0 := Lib.hid (below_al (below_al (Below.refl _ w) (.cells #[.int .i64 x.kind, .int .i64 x.int, .string x.text, .slice A x.items.length c, .slice K x.keys.length d] 35)) (.cells #[.int .i64 y.kind, .int .i64 y.int, .string y.text, .slice A' y.items.length c', .slice K' y.keys.length d'] 35))
  have HC := Lib.hid (order_any x.nodes x y _ A K c d A' K' c' d' (Nat.le_refl _) hx hy (lies_on h HB0.out) (lies_on h' HB0.out))
  obtain ⟨r, hr⟩ : ∃ r, r = x.cmp y := ⟨_, rfl⟩
  rw [← hr] at HC hb
  clear h h' hr hx hy
  go_enter Tryz.func28, Tryz.ntmps28
  go_wp2_with fail
  refine HC.out.mono ?_
  rintro e w1 ⟨rfl, hb1⟩
  have HB1 := Lib.hid (below_on HB0.out hb1)
  clear hb1 HC
  go_wp2_with fail
  go_ret
  exact ⟨rfl, HB1.out⟩

/-- Rows of five cells, one behind another. -/
theorem flat_row : ∀ {L : List (List Value)} (_ : ∀ cs ∈ L, cs.length = 5) {q : Nat} {cs : List Value}, L[q]? = some cs → ∀ i, i < 5 → L.flatten[q * 5 + i]? = cs[i]?
  | [], _, q, cs, h, i, hi => by simp at h
  | x :: r, h5, 0, cs, h, i, hi => by
    simp at h
    subst h
    rw [List.flatten_cons, Nat.zero_mul, Nat.zero_add, List.getElem?_append_left (by rw [h5 x List.mem_cons_self]; exact hi)]
  | x :: r, h5, q + 1, cs, h, i, hi => by
    simp at h
    rw [List.flatten_cons, List.getElem?_append_right (by rw [h5 x List.mem_cons_self]; omega), h5 x List.mem_cons_self, show (q + 1) * 5 + i - 5 = q * 5 + i by omega]
    exact flat_row (fun cs hc => h5 cs (List.mem_cons_of_mem _ hc)) h i hi
theorem RowsIn.get {P : Nat → Prop} {w : World} : ∀ {xs : List V} {css : List (List Value)} {k : Nat} {x : V}, RowsIn P w xs css → xs[k]? = some x → ∃ cs, css[k]? = some cs ∧ RowIn P w x cs
  | [], [], _, _, _, h => by simp at h
  | _ :: _, cs :: _, 0, x, h, hx => by simp at hx; subst hx; exact ⟨cs, rfl, h.1⟩
  | _ :: _, _ :: _, k + 1, x, h, hx => by simp at hx; simpa using RowsIn.get h.2 hx
  | [], _ :: _, _, _, h, _ => h.elim
  | _ :: _, [], _, _, h, _ => h.elim
theorem RowsIn.five {P : Nat → Prop} {w : World} : ∀ {xs : List V} {css : List (List Value)}, RowsIn P w xs css → ∀ cs ∈ css, cs.length = 5
  | [], [], _, cs, hc => by cases hc
  | _ :: _, _ :: _, h, cs, hc => by
    rcases List.mem_cons.1 hc with rfl | hc
    · obtain ⟨A, c, K, d, rfl, _⟩ := h.1; rfl
    · exact RowsIn.five h.2 cs hc
  | [], _ :: _, h, _, _ => h.elim
  | _ :: _, [], h, _, _ => h.elim
/-- How far a row is compacted: q values looked at; those kept stand ahead, the elder rows from there on. -/
structure CQ (w : World) (g : Nat) (m : List V) (css : List (List Value)) (q : Nat) (kss : List (List Value)) (W : World) : Prop where
  grown : w.grownBy W (some g)
  row : BlockIs W g 35 (kss ++ css.drop kss.length).flatten.toArray
  kept : RowsIn (fun b => g < b ∧ b < w.heap.size) w (onceV (m.take q)) kss
  all : RowsIn (fun b => g < b ∧ b < w.heap.size) w m css
  less : kss.length ≤ q
section
variable {w W W' : World} {g q : Nat} {m : List V} {css kss : List (List Value)} {x y : V}
theorem CQ.on (h : CQ w g m css q kss W) (hb : Below W.heap.size W W') : CQ w g m css q kss W' := ⟨grow_below h.grown hb, h.row.below hb h.row.lt, h.kept, h.all, h.less⟩
theorem CQ.drewN (h : CQ w g m css q kss W) (n : Nat) : CQ w g m css q kss (W.drewN n) := ⟨grow_drewN h.grown n, h.row, h.kept, h.all, h.less⟩
theorem CQ.five (h : CQ w g m css q kss W) : ∀ cs ∈ kss ++ css.drop kss.length, cs.length = 5 := fun cs hc => by
  rcases List.mem_append.1 hc with hc | hc
  · exact h.kept.five cs hc
  · exact h.all.five cs (List.mem_of_mem_drop hc)
theorem CQ.keeps (h : CQ w g m css q kss W) : ∀ b o, g < b ∧ b < w.heap.size → W.cell? ⟨b, o, none⟩ = w.cell? ⟨b, o, none⟩ := fun b o hb => World.cell?_of_block (h.grown.block b hb.2 (fun e => by rw [Option.some.injEq] at e; omega))
/-- A value not yet passed by. -/
theorem CQ.elem (h : CQ w g m css q kss W) {k : Nat} (hk : kss.length ≤ k) (hx : m[k]? = some x) : ∃ A c K d, css[k]? = some (fieldsL x A c K d) ∧ Lies W W.heap.size x A c K d ∧
    W.cell? ⟨g, k * 5, none⟩ = some (.int .i64 x.kind) ∧ W.cell? ⟨g, k * 5 + 1, none⟩ = some (.int .i64 x.int) ∧ W.cell? ⟨g, k * 5 + 2, none⟩ = some (.string x.text) ∧ W.cell? ⟨g, k * 5 + 3, none⟩ = some (.slice A x.items.length c) ∧ W.cell? ⟨g, k * 5 + 4, none⟩ = some (.slice K x.keys.length d) := by
  obtain ⟨cs, hc, A, c, K, d, rfl, hl⟩ := h.all.get hx
  have hL : (kss ++ css.drop kss.length)[k]? = some (fieldsL x A c K d) := by
    rw [List.getElem?_append_right hk, List.getElem?_drop, show kss.length + (k - kss.length) = k by omega]
    exact hc
  have hf := fun i hi => flat_row h.five hL i hi
  have hcell : ∀ i, i < 5 → W.cell? ⟨g, k * 5 + i, none⟩ = (fieldsL x A c K d)[i]? := fun i hi => by rw [h.row.cell, List.getElem?_toArray, hf i hi]
  exact ⟨A, c, K, d, hc, LiesIn.lies (fun b hb => by have := h.grown.size; have := hb.2; omega) _ (LiesIn.keep h.keeps (fun _ h => h) _ hl), hcell 0 (by omega), hcell 1 (by omega), hcell 2 (by omega), hcell 3 (by omega), hcell 4 (by omega)⟩
theorem CQ.start (w : World) (g : Nat) (m : List V) (css : List (List Value)) (hr : RowsIn (fun b => g < b ∧ b < w.heap.size) w m css) (hb : BlockIs w g 35 css.flatten.toArray) : CQ w g m css 0 [] w :=
  ⟨⟨rfl, rfl, rfl, Nat.le_refl _, fun _ _ _ => rfl⟩, by simpa using hb, by simp [onceV, RowsIn], hr, Nat.le_refl _⟩
/-- The first value that comes again. -/
theorem CQ.twice (h : CQ w g m css 0 [] W) {k : Nat} (hone : onceV (m.take k) = m.take k) (hpos : 1 ≤ k) (hx : m[k - 1]? = some x) (hy : m[k]? = some y) (he : y.cmp x = 0) : CQ w g m css (k + 1) (css.take k) W := by
  obtain ⟨j, rfl⟩ : ∃ j, k = j + 1 := ⟨k - 1, by omega⟩
  have hk : j + 1 < m.length := (List.getElem?_eq_some_iff.1 hy).1
  have hcl : css.length = m.length := h.all.length
  have h2 := onceV_take (by simpa using hx) hy
  rw [if_pos he, List.append_nil, hone] at h2
  refine ⟨h.grown, ?_, ?_, h.all, ?_⟩
  · have := h.row
    rw [List.length_take, Nat.min_eq_left (by omega), List.take_append_drop]
    simpa using this
  · rw [h2]; exact h.all.take (j + 1)
  · rw [List.length_take]; omega
theorem onceV_more {m : List V} {k : Nat} {x y : V} (hone : onceV (m.take k) = m.take k) (hpos : 1 ≤ k) (hx : m[k - 1]? = some x) (hy : m[k]? = some y) (he : ¬ y.cmp x = 0) : onceV (m.take (k + 1)) = m.take (k + 1) := by
  obtain ⟨j, rfl⟩ : ∃ j, k = j + 1 := ⟨k - 1, by omega⟩
  rw [onceV_take (by simpa using hx) hy, if_neg he, hone, List.take_add_one (l := m) (i := j + 1), hy]
  rfl
theorem CQ.skip (h : CQ w g m css q kss W) (hpos : 1 ≤ q) (hx : m[q - 1]? = some x) (hy : m[q]? = some y) (he : y.cmp x = 0) : CQ w g m css (q + 1) kss W := by
  obtain ⟨j, rfl⟩ : ∃ j, q = j + 1 := ⟨q - 1, by omega⟩
  have h2 := onceV_take (by simpa using hx) hy
  rw [if_pos he, List.append_nil] at h2
  exact ⟨h.grown, h.row, by rw [h2]; exact h.kept, h.all, by have := h.less; omega⟩
theorem CQ.keep {A K : Option Addr} {c d : Nat} (h : CQ w g m css q kss W) (hl : kss.length < q) (hx : m[q - 1]? = some x) (hy : m[q]? = some y) (he : ¬ y.cmp x = 0) (hc : css[q]? = some (fieldsL y A c K d)) :
    CQ w g m css (q + 1) (kss ++ [fieldsL y A c K d]) (put5 W g (kss.length * 5) (.int .i64 y.kind) (.int .i64 y.int) (.string y.text) (.slice A y.items.length c) (.slice K y.keys.length d)) := by
  obtain ⟨j, rfl⟩ : ∃ j, q = j + 1 := ⟨q - 1, by omega⟩
  have h2 := onceV_take (by simpa using hx) hy
  rw [if_neg he] at h2
  have hq : j + 1 < css.length := (List.getElem?_eq_some_iff.1 hc).1
  obtain ⟨r, hr⟩ : ∃ r, css[kss.length]? = some r := ⟨_, List.getElem?_eq_getElem (by omega)⟩
  have hr5 : r.length = 5 := h.all.five r (List.mem_of_getElem? hr)
  have hkl : kss.flatten.length = kss.length * 5 := by
    have h1 := h.kept.flat
    have h2 := h.kept.length
    rw [h1, h2]
  have hrow := h.row
  rw [List.flatten_append, drop_at hr, List.flatten_cons] at hrow
  match r, hr5 with
  | [r0, r1, r2, r3, r4], _ =>
    have hb := block_put5 (by simpa using hrow) hkl (.int .i64 y.kind) (.int .i64 y.int) (.string y.text) (.slice A y.items.length c) (.slice K y.keys.length d)
    obtain ⟨cs, hcs, hrw⟩ := h.all.get hy
    rw [hc] at hcs
    cases hcs
    refine ⟨?_, ?_, ?_, h.all, by simp; omega⟩
    · exact grow_set (grow_set (grow_set (grow_set (grow_set h.grown _ _ rfl) _ _ rfl) _ _ rfl) _ _ rfl) _ _ rfl
    · simpa [List.flatten_append, fieldsL] using hb
    · rw [h2]
      exact RowsIn.append (ys := [y]) (dss := [fieldsL y A c K d]) ⟨hrw, trivial⟩ h.kept
end
end Go.Proofs.YtfiiaeomlmckfaaGreatDoor
