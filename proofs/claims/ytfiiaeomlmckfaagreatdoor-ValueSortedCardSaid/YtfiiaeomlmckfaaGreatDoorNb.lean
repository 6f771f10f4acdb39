/- The program's copies of values, walked. -/
import Derived.Test.YtfiiaeomlmckfaaGreatDoorMb
import Derived.Deep.Light
import Derived.Laws.MakeOwn
import Derived.Lib.AppendZeros
namespace Go.Proofs.YtfiiaeomlmckfaaGreatDoor
open Go.RowKit

/-- A slice made whole, of elements of any size. -/
theorem wpList_makeN {P : Program} (w : World) {ops : Array Oper} {rest : List Oper} {o : Oper} {a : Act} {Q : Exit → Act → World → Prop}
    (hg : o.guard = none) (l c : Operand) (t : TypeId) (hop : o.op = Op.makeSlice t l c)
    (e : TypeId) (i : TypeInfo) (z : Value) (size : Nat) (ht : P.underlying t = some (.slice e)) (hi : P.info? e = some i) (hz : i.zero = some z) (hsize : i.size = size)
    (kl kc : IntKind) (n : Nat) (hl : a.eval l = .int kl (n : Int)) (hc : a.eval c = .int kc (n : Int)) (hbytes : i.bytes * n ≤ 281474976710656) (h63 : n ≤ 9223372036854775807)
    (hK : wpList P ops Q rest (a.put o.dst (.slice (some ⟨w.heap.size, 0, none⟩) n n)) (w.alloc (.cells (madeCells z.cells (n * size)) e))) :
    wpList P ops Q (o :: rest) a w := by
  refine wpList_plain hg fun K hK' => ?_
  have hb' : (i.bytes : Int) * (n : Int) ≤ 281474976710656 := by
    have h : ((i.bytes * n : Nat) : Int) ≤ 281474976710656 := by omega
    rwa [Int.natCast_mul] at h
  have hrun := run_make (P := P) w t e i z ht hi hz kl kc n n (by omega) (Int.le_refl _) hb' (by omega)
  simp only [Int.toNat_natCast, hsize] at hrun
  unfold Oper.wp
  simp [execOp, hop, hl, hc, hrun, Result.andThen]
  exact hK' _ _ hK

/-- A list of values in a row of its own, all that hangs on it behind that row. -/
def RowPost (m : List V) (v : Value) (w w' : World) : Prop :=
  (m = [] ∧ v = .slice none 0 0 ∧ Below w.heap.size w w') ∨
  (∃ g css, v = .slice (some ⟨g, 0, none⟩) m.length m.length ∧ w.heap.size ≤ g ∧ g < w'.heap.size ∧ RowsIn (fun b => g < b ∧ b < w'.heap.size) w' m css ∧ BlockIs w' g 35 css.flatten.toArray ∧ Below w.heap.size w w')
/-- What copies answers. -/
def CopiesPost (l : List V) (w : World) (e : Ending) (w' : World) : Prop := ∃ v, e = .returned v ∧ RowPost l v w w'
theorem BlockIs.from {P : Nat → Prop} {w : World} {g : Nat} {t : TypeId} {xs : List V} {css : List (List Value)} (h : BlockIs w g t css.flatten.toArray) (hr : RowsIn P w xs css) : LiesFromIn P w xs g 0 :=
  hr.from fun j v hj => by rw [Nat.zero_add, h.cell, List.getElem?_toArray]; exact hj
theorem RowPost.lies {l : List V} {w w' : World} {v : Value} (h : RowPost l v w w') (hl : l.length ≤ 1000000) :
    ∃ A c, v = .slice A l.length c ∧ l.length ≤ c ∧ c ≤ maxLen ∧ (l = [] ∨ ∃ b o, A = some ⟨b, o, none⟩ ∧ Fresh w w' b ∧ LiesFromIn (Fresh w w') w' l b o) ∧ Below w.heap.size w w' := by
  rcases h with ⟨rfl, rfl, hb⟩ | ⟨g, css, rfl, h1, h2, h3, h4, h5⟩
  · exact ⟨none, 0, rfl, Nat.le_refl _, by simp [maxLen], .inl rfl, hb⟩
  · refine ⟨_, _, rfl, Nat.le_refl _, by unfold maxLen; omega, .inr ⟨g, 0, rfl, ⟨h1, h2⟩, ?_⟩, h5⟩
    exact h4.from (h3.keep (fun _ _ _ => rfl) fun b hb => ⟨by omega, hb.2⟩)

/-- How far a list is copied: the row, and what lies in it. -/
structure CP (w : World) (l : List V) (j : Nat) (css : List (List Value)) (rest : List Value) (W : World) : Prop where
  old : Below w.heap.size w W
  row : BlockIs W w.heap.size 35 (css.flatten ++ rest).toArray
  len : rest.length = (l.length - j) * 5
  rows : RowsIn (fun b => w.heap.size < b ∧ b < W.heap.size) W (l.take j) css
theorem block_put5 {W : World} {g o : Nat} {t : TypeId} {xs ys : List Value} {r0 r1 r2 r3 r4 : Value} (h : BlockIs W g t (xs ++ r0 :: r1 :: r2 :: r3 :: r4 :: ys).toArray) (hx : xs.length = o) (a b c d e : Value) :
    BlockIs (put5 W g o a b c d e) g t (xs ++ a :: b :: c :: d :: e :: ys).toArray := by
  have h5 := ((((h.set_ o a).set_ (o + 1) b).set_ (o + 2) c).set_ (o + 3) d).set_ (o + 4) e
  subst hx
  unfold put5
  simpa [List.set_append] using h5
theorem CP.cells {w W : World} {l : List V} {j : Nat} {css : List (List Value)} {rest : List Value} (h : CP w l j css rest W) (hj : j < l.length) :
    ∃ r0 r1 r2 r3 r4 ys, rest = r0 :: r1 :: r2 :: r3 :: r4 :: ys ∧ ys.length = (l.length - (j + 1)) * 5 ∧ css.flatten.length = j * 5 := by
  have h1 := h.len
  have h2 := h.rows.flat
  rw [List.length_take, Nat.min_eq_left (by omega)] at h2
  match rest, h1 with
  | r0 :: r1 :: r2 :: r3 :: r4 :: ys, h1 => exact ⟨r0, r1, r2, r3, r4, ys, rfl, by simp at h1; omega, h2⟩
  | [], h1 => simp at h1; omega
  | [_], h1 => simp at h1; omega
  | [_, _], h1 => simp at h1; omega
  | [_, _, _], h1 => simp at h1; omega
  | [_, _, _, _], h1 => simp at h1; omega
theorem CP.next {w W w1 W2 : World} {l : List V} {j : Nat} {css : List (List Value)} {r0 r1 r2 r3 r4 : Value} {ys : List Value} {y : V} {A2 K2 : Option Addr} {c2 d2 : Nat} {cs : Array Value} (h : CP w l j css (r0 :: r1 :: r2 :: r3 :: r4 :: ys) W) (hy : l[j]? = some y)
    (h1 : Below (W.alloc (.cells cs 35)).heap.size (W.alloc (.cells cs 35)) w1) (ht : y.text.size ≤ maxLen) (hc : y.items.length ≤ c2) (hm : c2 ≤ maxLen)
    (hi : y.items = [] ∨ ∃ b o, A2 = some ⟨b, o, none⟩ ∧ Fresh (W.alloc (.cells cs 35)) w1 b ∧ LiesFromIn (Fresh (W.alloc (.cells cs 35)) w1) w1 y.items b o)
    (hk : StrsIn (Fresh (w1.setCell ⟨W.heap.size, 3, none⟩ (.slice A2 y.items.length c2)) W2) W2 K2 d2 y.keys) (h2 : Below (w1.setCell ⟨W.heap.size, 3, none⟩ (.slice A2 y.items.length c2)).heap.size (w1.setCell ⟨W.heap.size, 3, none⟩ (.slice A2 y.items.length c2)) W2) :
    CP w l (j + 1) (css ++ [fieldsL y A2 c2 K2 d2]) ys (put5 (W2.setCell ⟨W.heap.size, 4, none⟩ (.slice K2 y.keys.length d2)) w.heap.size (j * 5) (.int .i64 y.kind) (.int .i64 y.int) (.string y.text) (.slice A2 y.items.length c2) (.slice K2 y.keys.length d2)) := by
  have hj : j < l.length := (List.getElem?_eq_some_iff.1 hy).1
  obtain ⟨_, _, _, _, _, _, he, hys, hfl⟩ := h.cells hj
  simp only [List.cons.injEq] at he
  obtain ⟨-, -, -, -, -, rfl⟩ := he
  have hgW := h.row.lt
  have hs1 := h1.size
  have hs2 := h2.size
  simp at hs1 hs2
  have hsz : (put5 (W2.setCell ⟨W.heap.size, 4, none⟩ (.slice K2 y.keys.length d2)) w.heap.size (j * 5) (.int .i64 y.kind) (.int .i64 y.int) (.string y.text) (.slice A2 y.items.length c2) (.slice K2 y.keys.length d2)).heap.size = W2.heap.size := by
    rw [put5_size]; simp [World.setCell]
  have hfar : ∀ b, b ≠ w.heap.size → b ≠ W.heap.size → (put5 (W2.setCell ⟨W.heap.size, 4, none⟩ (.slice K2 y.keys.length d2)) w.heap.size (j * 5) (.int .i64 y.kind) (.int .i64 y.int) (.string y.text) (.slice A2 y.items.length c2) (.slice K2 y.keys.length d2)).heap[b]? = W2.heap[b]? := fun b hb1 hb2 => by
    rw [put5_heap _ _ _ _ _ _ _ _ hb1, Below.heap_setCell _ _ _ _ hb2]
  have hmid : ∀ b, b ≠ w.heap.size → b ≠ W.heap.size → b < w1.heap.size → (put5 (W2.setCell ⟨W.heap.size, 4, none⟩ (.slice K2 y.keys.length d2)) w.heap.size (j * 5) (.int .i64 y.kind) (.int .i64 y.int) (.string y.text) (.slice A2 y.items.length c2) (.slice K2 y.keys.length d2)).heap[b]? = w1.heap[b]? := fun b hb1 hb2 hb3 => by
    rw [hfar b hb1 hb2, h2.block b (by simpa using hb3), Below.heap_setCell _ _ _ _ hb2]
  have hlow : ∀ b, b < W.heap.size → b ≠ w.heap.size → (put5 (W2.setCell ⟨W.heap.size, 4, none⟩ (.slice K2 y.keys.length d2)) w.heap.size (j * 5) (.int .i64 y.kind) (.int .i64 y.int) (.string y.text) (.slice A2 y.items.length c2) (.slice K2 y.keys.length d2)).heap[b]? = W.heap[b]? := fun b hb1 hb2 => by
    rw [hmid b hb2 (by omega) (by omega), h1.block b (by simp; omega), Below.heap_alloc _ _ _ hb1]
  refine ⟨⟨?_, ?_, ?_, by rw [hsz]; have := h.old.size; omega, fun b hb => ?_⟩, ?_, hys, ?_⟩
  · exact (show _ = W2.os by simp [put5, World.setCell]).trans (h2.os.trans ((show _ = w1.os by simp [World.setCell]).trans (h1.os.trans h.old.os)))
  · exact (show _ = W2.tape by simp [put5, World.setCell]).trans (h2.tape.trans ((show _ = w1.tape by simp [World.setCell]).trans (h1.tape.trans h.old.tape)))
  · exact (show _ = W2.output by simp [put5, World.setCell]).trans (h2.output.trans ((show _ = w1.output by simp [World.setCell]).trans (h1.output.trans h.old.output)))
  · rw [hlow b (by omega) (by omega)]
    exact h.old.block b hb
  · have hb : BlockIs (W2.setCell ⟨W.heap.size, 4, none⟩ (.slice K2 y.keys.length d2)) w.heap.size 35 (css.flatten ++ r0 :: r1 :: r2 :: r3 :: r4 :: ys).toArray := by
      refine h.row.to ?_
      rw [Below.heap_setCell _ _ _ _ (show w.heap.size ≠ W.heap.size by omega), h2.block _ (by simp; omega), Below.heap_setCell _ _ _ _ (show w.heap.size ≠ W.heap.size by omega), h1.block _ (by simp; omega), Below.heap_alloc _ _ _ hgW]
    have := block_put5 hb hfl (.int .i64 y.kind) (.int .i64 y.int) (.string y.text) (.slice A2 y.items.length c2) (.slice K2 y.keys.length d2)
    simpa [List.flatten_append, fieldsL] using this
  · have hta : l.take (j + 1) = l.take j ++ [y] := by rw [List.take_add_one, hy]; rfl
    rw [hta]
    have hnew : LiesIn (fun b => w.heap.size < b ∧ b < (put5 (W2.setCell ⟨W.heap.size, 4, none⟩ (.slice K2 y.keys.length d2)) w.heap.size (j * 5) (.int .i64 y.kind) (.int .i64 y.int) (.string y.text) (.slice A2 y.items.length c2) (.slice K2 y.keys.length d2)).heap.size) (put5 (W2.setCell ⟨W.heap.size, 4, none⟩ (.slice K2 y.keys.length d2)) w.heap.size (j * 5) (.int .i64 y.kind) (.int .i64 y.int) (.string y.text) (.slice A2 y.items.length c2) (.slice K2 y.keys.length d2)) y A2 c2 K2 d2 := by
      obtain ⟨k, i, t, items, keys⟩ := y
      rw [LiesIn]
      refine ⟨ht, hc, hm, ?_, ?_⟩
      · exact hk.keep (fun b o hb => World.cell?_of_block (hfar b (by have := hb.1; simp at this; omega) (by have := hb.1; simp at this; omega))) (fun b hb => ⟨by have := hb.1; simp at this; omega, by rw [hsz]; exact hb.2⟩)
      · rcases hi with hi | ⟨b, o, hA, hb, hf⟩
        · exact .inl hi
        · have hP : ∀ b, Fresh (W.alloc (.cells cs 35)) w1 b → W.heap.size < b ∧ b < w1.heap.size := fun b hb => ⟨by have := hb.1; simp at this; omega, hb.2⟩
          refine .inr ⟨b, o, hA, ⟨by have := hP b hb; omega, by rw [hsz]; have := hP b hb; omega⟩, ?_⟩
          exact LiesFromIn.keep (fun b o hb => World.cell?_of_block (hmid b (by have := hP b hb; omega) (by have := hP b hb; omega) (hP b hb).2)) (fun b hb => ⟨by have := hP b hb; omega, by rw [hsz]; have := hP b hb; omega⟩) _ hb hf
    refine RowsIn.append (ys := [y]) (dss := [fieldsL y A2 c2 K2 d2]) ⟨⟨_, _, _, _, rfl, hnew⟩, trivial⟩ (h.rows.keep (fun b o hb => World.cell?_of_block (hlow b hb.2 (by omega))) fun b hb => ⟨hb.1, by rw [hsz]; omega⟩)

theorem copies_nil (A : Option Addr) (c : Nat) (w : World) : Calls Tryz.prog 23 #[.slice A 0 c] w (CopiesPost [] w) := by
  go_enter Tryz.func23, Tryz.ntmps23
  go_wp2_with fail
  go_ret
  exact ⟨_, rfl, .inl ⟨rfl, rfl, Below.refl _ _⟩⟩
theorem CP.done {l : List V} {w W : World} {j : Nat} {css : List (List Value)} {rest : List Value} (h : CP w l j css rest W) (hj : l.length ≤ j) :
    RowPost l (.slice (some ⟨w.heap.size, 0, none⟩) l.length l.length) w W := by
  have hr := h.len
  rw [Nat.sub_eq_zero_of_le hj, Nat.zero_mul] at hr
  obtain rfl := List.length_eq_zero_iff.1 hr
  refine .inr ⟨_, css, rfl, Nat.le_refl _, h.row.lt, ?_, by simpa using h.row, h.old⟩
  have := h.rows
  rw [List.take_of_length_le hj] at this
  exact this
set_option maxRecDepth 100000 in
set_option maxHeartbeats 4000000 in
theorem copies_step (l : List V) (w : World) (A : Option Addr) (c : Nat) (hl : l.length ≤ 1000) (hpos : 0 < l.length) (hx : ∀ x ∈ l, x.ok = true ∧ x.nodes ≤ 60) (h : LiesL w w.heap.size A c l)
    (ih : ∀ y ∈ l, ∀ (W : World) (A : Option Addr) (c : Nat), LiesL W W.heap.size A c y.items → Calls Tryz.prog 23 #[.slice A y.items.length c] W (CopiesPost y.items W)) :
    Calls Tryz.prog 23 #[.slice A l.length c] w (CopiesPost l w) := by
  obtain ⟨iv0, hiv, hzv0, hzv1, hzv2⟩ := info_parts (P := Tryz.prog) (e := 35) (z := .agg zeroF) (size := 5) (bytes := 80) (by kernel_rfl)
  rcases h.2.2 with rfl | ⟨b, o, rfl, hbB, hf⟩
  · simp at hpos
  have HF := Lib.hid hf
  have HX := Lib.hid hx
  have HI := Lib.hid ih
  have HIV := Lib.hid hiv
  have HZ0 := Lib.hid hzv0
  have HZ1 := Lib.hid hzv1
  have HZ2 := Lib.hid hzv2
  have HS0 := Lib.hid (show CP w l 0 [] (madeCells (Value.agg zeroF).cells (l.length * 5)).toList (w.alloc (.cells (madeCells (Value.agg zeroF).cells (l.length * 5)) 35)) from
    ⟨(Below.refl _ w).alloc (Nat.le_refl _) _, by simpa using BlockIs.new w 35 (madeCells (Value.agg zeroF).cells (l.length * 5)), by simp [size_madeCells], trivial⟩)
  obtain ⟨n, hn⟩ : ∃ n, n = l.length := ⟨_, rfl⟩
  have HN := Lib.hid hn
  have hn0 : (n : Int) ≠ 0 := by omega
  have hnb : n ≤ 1000 := by omega
  rw [← hn]
  rw [← hn] at HS0
  clear h hf hx ih hiv hzv0 hzv1 hzv2 hl hpos hn
  go_enter Tryz.func23, Tryz.ntmps23
  go_wp2_with (with_reducible refine wpList_makeN _ rfl _ _ 22 rfl 35 iv0 (.agg zeroF) 5 Tryz.underlying22 HIV.out HZ0.out HZ1.out .i64 .i64 n rfl rfl (by rw [HZ2.out]; omega) (by omega) ?_)
  go_loopw [14] (fun iv wr => ∃ j : Nat, iv = .int .i64 j ∧ j ≤ n ∧ Hid (∃ css rest, CP w l j css rest wr)) (fun iv _ => n - (intOf iv).toNat)
  case atStart => exact ⟨0, rfl, Nat.zero_le _, Lib.hid ⟨_, _, HS0.out⟩⟩
  case round =>
    clear HS0
    obtain ⟨j, rfl, hj, hI⟩ := hrel
    obtain ⟨css, rest, hC⟩ := hI.out
    have HC := Lib.hid hC
    clear hI hC
    by_cases hlt : j < n
    · have hj0 : 0 ≤ (j : Int) := by omega
      have hjn : (j : Int) < n := by omega
      obtain ⟨y, hy⟩ : ∃ y, l[j]? = some y := ⟨_, List.getElem?_eq_getElem (by have := HN.out; omega)⟩
      obtain ⟨r0, r1, r2, r3, r4, ys, rfl, -, hfl⟩ := HC.out.cells (show j < l.length by have := HN.out; omega)
      obtain ⟨Ay, cy, Ky, dy, e0, e1, e2, e3, e4, hly⟩ := (LiesFrom.keep (bcell HC.out.old) (Nat.le_refl _) l hbB HF.out).at_ hy
      have hly2 := lies_alloc (w := wr) (Lies.keep (fun _ _ _ => rfl) HC.out.old.size _ hly) (.cells #[.int .i64 y.kind, .int .i64 y.int, .string y.text, .slice Ay y.items.length cy, .slice Ky y.keys.length dy] 35)
      have HY := Lib.hid hy
      have HLY := Lib.hid hly2
      have HLW := Lib.hid (show Lies wr wr.heap.size y Ay cy Ky dy from Lies.keep (fun _ _ _ => rfl) HC.out.old.size _ hly)
      have HFL := Lib.hid hfl
      have hym : y ∈ l := List.mem_of_getElem? hy
      have HYX := Lib.hid (HX.out y hym)
      have HYI := Lib.hid (HI.out y hym)
      clear hy hly hly2 hfl hym hlt
      go_wp2_with fail
      refine (HYI.out _ Ay cy (lies_items HLY.out)).mono ?_
      rintro e w1 ⟨v, rfl, hp⟩
      obtain ⟨A2, c2, rfl, hc2, hm2, hi2, hb2⟩ := hp.lies (by have h1 := nodes_items y; have h2 := length_le_nodesL y.items; have h3 := HYX.out.2; omega)
      have hbv : BlockIs w1 wr.heap.size 35 #[.int .i64 y.kind, .int .i64 y.int, .string y.text, .slice Ay y.items.length cy, .slice Ky y.keys.length dy] := (BlockIs.new wr _ _).below hb2 (by simp)
      have hbv2 := hbv.set_ 3 (.slice A2 y.items.length c2)
      have hkl : y.keys.length ≤ 1000000 := by
        obtain ⟨-, h1, h2⟩ := okk HYX.out.1
        by_cases h5 : y.kind = 5
        · rw [h2 h5]; have h1 := nodes_items y; have h2 := length_le_nodesL y.items; have h3 := HYX.out.2; omega
        · rw [h1 h5]; exact Nat.zero_le _
      have hky : Strs (w1.setCell ⟨wr.heap.size, 3, none⟩ (.slice A2 y.items.length c2)) (w1.setCell ⟨wr.heap.size, 3, none⟩ (.slice A2 y.items.length c2)).heap.size Ky dy y.keys := by
        have h0 : Strs wr wr.heap.size Ky dy y.keys := lies_keys HLW.out
        exact h0.keep (fun b o hb => by rw [World.cell?_of_block (Below.heap_setCell _ _ _ _ (show b ≠ wr.heap.size by omega)), bcell hb2 b o (by simp; omega), World.cell?_of_block (Below.heap_alloc _ _ _ hb)]) (by have := hb2.size; simp at this; simp; omega)
      obtain ⟨K2, d2, W2, hrun, hK2, hb3⟩ := append_keys 33 _ Ky dy y.keys hky hkl
      have hbv3 := hbv2.below hb3 (by simpa using hbv.lt)
      have HRUN := Lib.hid hrun
      have HCN := Lib.hid (HC.out.next HY.out hb2 (lies_text HLY.out) hc2 hm2 hi2 hK2 hb3)
      have g0 := hbv.cell 0
      have g3 : w1.cell? ⟨wr.heap.size, 3, none⟩ = some (.slice Ay y.items.length cy) := hbv.cell 3
      have g4 : w1.cell? ⟨wr.heap.size, 4, none⟩ = some (.slice Ky y.keys.length dy) := hbv.cell 4
      have f3 : w1.frozen? ⟨wr.heap.size, 3, none⟩ = false := hbv.frozen 3
      have gl : wr.heap.size < w1.heap.size := hbv.lt
      have k0 : W2.cell? ⟨wr.heap.size, 0, none⟩ = some (.int .i64 y.kind) := hbv3.cell 0
      have k1 : W2.cell? ⟨wr.heap.size, 1, none⟩ = some (.int .i64 y.int) := hbv3.cell 1
      have k2 : W2.cell? ⟨wr.heap.size, 2, none⟩ = some (.string y.text) := hbv3.cell 2
      have k3 : W2.cell? ⟨wr.heap.size, 3, none⟩ = some (.slice A2 y.items.length c2) := hbv3.cell 3
      have k4 : W2.cell? ⟨wr.heap.size, 4, none⟩ = some (.slice Ky y.keys.length dy) := hbv3.cell 4
      have m4 : W2.frozen? ⟨wr.heap.size, 4, none⟩ = false := hbv3.frozen 4
      have ml : wr.heap.size < W2.heap.size := hbv3.lt
      have hne : ¬ w.heap.size = wr.heap.size := by have := HC.out.row.lt; omega
      have hrow : BlockIs W2 w.heap.size 35 (css.flatten ++ r0 :: r1 :: r2 :: r3 :: r4 :: ys).toArray := by
        refine HC.out.row.to ?_
        have hgW := HC.out.row.lt
        have hs1 := hb2.size
        simp at hs1
        rw [hb3.block _ (by simp; omega), Below.heap_setCell _ _ _ _ hne, hb2.block _ (by simp; omega), Below.heap_alloc _ _ _ hgW]
      have q0 : W2.cell? ⟨w.heap.size, j * 5, none⟩ = some r0 := by rw [hrow.cell, ← HFL.out]; simp
      have q1 : W2.cell? ⟨w.heap.size, j * 5 + 1, none⟩ = some r1 := by rw [hrow.cell, ← HFL.out]; simp
      have q2 : W2.cell? ⟨w.heap.size, j * 5 + 2, none⟩ = some r2 := by rw [hrow.cell, ← HFL.out]; simp
      have q3 : W2.cell? ⟨w.heap.size, j * 5 + 3, none⟩ = some r3 := by rw [hrow.cell, ← HFL.out]; simp
      have q4 : W2.cell? ⟨w.heap.size, j * 5 + 4, none⟩ = some r4 := by rw [hrow.cell, ← HFL.out]; simp
      have n0 := hrow.frozen (j * 5)
      have n1 := hrow.frozen (j * 5 + 1)
      have n2 := hrow.frozen (j * 5 + 2)
      have n3 := hrow.frozen (j * 5 + 3)
      have n4 := hrow.frozen (j * 5 + 4)
      have nl := hrow.lt
      clear hp hc2 hm2 hi2 hb2 hbv hbv2 hkl hky hrun hK2 hb3 hbv3 hrow e0 e1 e2 e3 e4 HC
      go_wp2_with (at_builtin; refine Lib.wpList_append_run _ rfl _ _ _ _ rfl _ _ rfl rfl _ _ HRUN.out ?_)
      go_roundw
      case rel => exact ⟨j + 1, by go_num, by omega, Lib.hid ⟨_, _, HCN.out⟩⟩
      case measure => simp [intOf]; omega
    · have hjn : ¬ ((j : Int) < n) := by omega
      go_wp2_with fail
      go_ret
      exact ⟨_, rfl, by have := HC.out.done (by have := HN.out; omega); rw [← HN.out] at this; exact this⟩
end Go.Proofs.YtfiiaeomlmckfaaGreatDoor
