/- A value copied: what is laid is the call's own, block by block. -/
import Derived.Test.YtchadlbhdcpojaaGreatDoorVf
import Derived.Test.YtchadlbhdcpojaaGreatDoorTd
namespace Go.Proofs.YtchadlbhdcpojaaGreatDoor
open Go.RowKit

theorem own_base {w : World} {N N' size n : Nat} {e : TypeId} {v : Value} {xs : List Value} (h : w.ownsRow N e size v n xs) (hN : N' ≤ N) : w.ownsRow N' e size v n xs := by
  obtain ⟨h1, ⟨rfl, h0⟩ | ⟨g, cap, cur, rfl, hB, hb, hn, hm, hs, ht⟩⟩ := h
  · exact ⟨h1, .inl ⟨rfl, h0⟩⟩
  · exact ⟨h1, .inr ⟨g, cap, cur, rfl, Nat.le_trans hN hB, hb, hn, hm, hs, ht⟩⟩
mutual
theorem Tree.base {w : World} {N N' : Nat} (hN : N' ≤ N) : ∀ (x : V) {vI vK : Value} {D : Nat → Prop}, Tree w N x vI vK D → Tree w N' x vI vK D
  | .mk _ _ _ items _, _, _, _, h => by
    obtain ⟨h1, h2, h3, h4, h5, css, h6, h7⟩ := h
    exact ⟨h1, h2, own_base h3 hN, h4, h5, css, own_base h6 hN, Trees.base hN items h7⟩
theorem Trees.base {w : World} {N N' : Nat} (hN : N' ≤ N) : ∀ (l : List V) {css : List (List Value)} {D : Nat → Prop}, Trees w N l css D → Trees w N' l css D
  | [], [], _, _ => trivial
  | x :: r, cs :: t, _, h => by
    obtain ⟨D1, D2, h1, h2, ⟨vI, vK, e, hx⟩, hr⟩ := h
    exact ⟨D1, D2, h1, h2, ⟨vI, vK, e, Tree.base hN x hx⟩, Trees.base hN r hr⟩
  | [], _ :: _, _, h => h.elim
  | _ :: _, [], _, h => h.elim
end
/-- Keys appended onto nothing are the call's own. -/
theorem append_own (ty : TypeId) (W : World) (K : Option Addr) (d : Nat) (ks : List ByteArray) (h : Strs W W.heap.size K d ks) (hk : ks.length ≤ 1000000) :
    ∃ K' d' W', (Builtin.append_ #[25, 25] ty #[.slice none 0 0, .slice K ks.length d]).run Tryz.prog W = .ok (.slice K' ks.length d') W' ∧ W'.ownsRow W.heap.size 9 1 (.slice K' ks.length d') ks.length (ks.map Value.string) ∧ Below W.heap.size W W' := by
  obtain ⟨i0, hi, hz0, hz1, hz2⟩ := info_parts (P := Tryz.prog) (e := 9) (z := (.string ⟨#[]⟩)) (size := 1) (bytes := 16) (by kernel_rfl)
  rcases Nat.eq_zero_or_pos ks.length with h0 | hpos
  · obtain rfl := List.length_eq_zero_iff.1 h0
    refine ⟨none, 0, W, ?_, World.ownsRow_nil _ _ _ _, Below.refl _ W⟩
    have hs : Src Tryz.prog i0.size 25 (.slice K 0 d) 0 [] W := by
      cases K with
      | none => exact Src.ofNil W Tryz.underlying25 d
      | some a => exact Src.ofSlice W Tryz.underlying25 a 0 d [] (by simp) (fun j u hj => by simp at hj) (fun u hu => by cases hu)
    exact run_append_nothing (P := Tryz.prog) W 25 25 ty 9 i0 Tryz.underlying25 hi none 0 0 (Nat.le_refl _) _ hs
  · rcases h.2.2 with rfl | ⟨b, o, rfl, hb, hf⟩
    · simp at hpos
    · obtain ⟨v', W', hr, h2, h3, h4⟩ := append_where (P := Tryz.prog) W W.heap.size 25 ty 9 i0 (.string ⟨#[]⟩) 1 16 Tryz.underlying25 hi hz0 hz1 hz2 rfl (by omega) (.slice none 0 0) 0 [] (World.ownsRow_nil _ _ _ _) ⟨b, o, none⟩ ks.length d (ks.map Value.string) (by simp) (fun j v hj => by
        rw [List.getElem?_map] at hj
        obtain ⟨s, hs, rfl⟩ := Option.map_eq_some_iff.1 hj
        rw [Addr.add_lit]
        exact (hf.at_ hs).1) (fun u hu => by obtain ⟨q, -, rfl⟩ := List.mem_map.1 hu; rfl) (by unfold maxLen; omega) (by omega) (Nat.le_refl _) hpos
      rw [Nat.zero_add, List.nil_append] at h2
      obtain ⟨K', d', rfl⟩ := own_form h2
      exact ⟨K', d', W', hr, h2, below_none h3⟩
/-- Where the copying of a value stands. -/
structure CT (w : World) (x : V) (vK : Value) (acc : List V) (rI : Value) (css : List (List Value)) (W : World) : Prop where
  old : Below w.heap.size w W
  bv : BlockIs W w.heap.size 27 #[.int .i64 x.kind, .int .i64 x.int, .string x.text, rI, vK]
  br : BlockIs W (w.heap.size + 1) 27 zeroF
  items : W.ownsRow (w.heap.size + 2) 27 5 rI acc.length css.flatten
  trees : Trees W (w.heap.size + 2) acc css (fun b => w.heap.size + 2 ≤ b ∧ b < W.heap.size ∧ rI.ownBlock ≠ some b ∧ vK.ownBlock ≠ some b)
  keys : W.ownsRow (w.heap.size + 2) 9 1 vK x.keys.length (x.keys.map Value.string)
  apart : ∀ b, vK.ownBlock = some b → rI.ownBlock ≠ some b
section
variable {w W W' Wb w1 w5 : World} {x y : V} {vK yI yK : Value} {g' cap : Nat} {acc : List V} {rI : Value} {css : List (List Value)}
theorem CT.below (h : CT w x vK acc rI css W) (hb : Below W.heap.size W W') : CT w x vK acc rI css W' :=
  ⟨below_on h.old hb, h.bv.below hb h.bv.lt, h.br.below hb h.br.lt, own_stays h.items (fun b e => hb.block b (World.ownsRow.lt h.items b e).2), h.trees.keep _ (fun b e => hb.block b e.2.1) (fun b e => ⟨e.1, by have := e.2.1; have := hb.size; omega, e.2.2⟩), own_stays h.keys (fun b e => hb.block b (World.ownsRow.lt h.keys b e).2), h.apart⟩
/-- Behind an item. -/
theorem CT.item (h0 : CT w x vK acc rI css W) (hb : Below W.heap.size W w1) (hy : Tree w1 W.heap.size y yI yK (Fresh W w1))
    (hal : w1.grownBy Wb none) (hgrow : Wb.grownBy w5 rI.ownBlock) (hat : rI.ownBlock = some g' ∨ g' = Wb.heap.size)
    (hown : w5.ownsRow (w.heap.size + 2) 27 5 (.slice (some ⟨g', 0, none⟩) (acc.length + 1) cap) (acc.length + 1) (css.flatten ++ five y yI yK)) :
    CT w x vK (acc ++ [y]) (.slice (some ⟨g', 0, none⟩) (acc.length + 1) cap) (css ++ [five y yI yK]) (w5.setCell ⟨w.heap.size, 3, none⟩ (.slice (some ⟨g', 0, none⟩) (acc.length + 1) cap)) := by
  have hr0 := fun b hb => World.ownsRow.lt h0.items b hb
  have hk0 := fun b hb => World.ownsRow.lt h0.keys b hb
  have hGW : w.heap.size + 1 < W.heap.size := h0.br.lt
  have h := h0.below hb
  obtain ⟨e1, e3, e4, e5, e6, e7, e8⟩ := h
  have hsz := hb.size
  have hs1 := hgrow.size
  have hs2 : w1.heap.size ≤ Wb.heap.size := hal.size
  have hGr : some w.heap.size ≠ rI.ownBlock := fun e => by have := (hr0 w.heap.size e.symm).1; omega
  have hGg : ¬ w.heap.size = g' := row_apart hat hGr (by omega)
  have hold : ∀ b, b < w1.heap.size → b ≠ w.heap.size → some b ≠ rI.ownBlock → (w5.setCell ⟨w.heap.size, 3, none⟩ (.slice (some ⟨g', 0, none⟩) (acc.length + 1) cap)).heap[b]? = w1.heap[b]? := by
    intro b hb h1 h2
    rw [Below.heap_setCell _ _ _ _ h1, hgrow.block b (by omega) h2, hal.block b hb (by simp)]
  have hsz3 : (w5.setCell ⟨w.heap.size, 3, none⟩ (.slice (some ⟨g', 0, none⟩) (acc.length + 1) cap)).heap.size = w5.heap.size := by simp [World.setCell]
  have hlow : ∀ b, b < w.heap.size + 2 → some b ≠ rI.ownBlock := fun b hb e => by have := (hr0 _ e.symm).1; omega
  have hsw := e1.size
  have hg : ∀ b, b < w1.heap.size → some b ≠ rI.ownBlock → (Value.slice (some ⟨g', 0, none⟩) (acc.length + 1) cap).ownBlock ≠ some b := fun b h1 h2 => by
    have := row_apart hat h2 (show b < Wb.heap.size by omega)
    simp [Value.ownBlock]; omega
  refine ⟨⟨?_, ?_, ?_, by rw [hsz3]; omega, fun b hb => ?_⟩, ?_, ?_, ?_, ?_, ?_, fun b hb => hg b (by have := (hk0 b hb).2; omega) (fun e => h0.apart b hb e.symm)⟩
  · exact (show (w5.setCell ⟨w.heap.size, 3, none⟩ (.slice (some ⟨g', 0, none⟩) (acc.length + 1) cap)).os = w5.os by simp [World.setCell]).trans (hgrow.os.trans (hal.os.trans e1.os))
  · exact (show (w5.setCell ⟨w.heap.size, 3, none⟩ (.slice (some ⟨g', 0, none⟩) (acc.length + 1) cap)).tape = w5.tape by simp [World.setCell]).trans (hgrow.tape.trans (hal.tape.trans e1.tape))
  · exact (show (w5.setCell ⟨w.heap.size, 3, none⟩ (.slice (some ⟨g', 0, none⟩) (acc.length + 1) cap)).output = w5.output by simp [World.setCell]).trans (hgrow.output.trans (hal.output.trans e1.output))
  · rw [hold b (by omega) (by omega) (hlow b (by omega))]
    exact e1.block b hb
  · have h5 : BlockIs w5 w.heap.size 27 #[.int .i64 x.kind, .int .i64 x.int, .string x.text, rI, vK] := (e3.grown hal (by simp)).grown hgrow hGr
    simpa using h5.set_ 3 (.slice (some ⟨g', 0, none⟩) (acc.length + 1) cap)
  · exact (hold _ (by omega) (by omega) (hlow _ (by omega))).trans e4
  · have := own_set_far hown ⟨w.heap.size, 3, none⟩ (.slice (some ⟨g', 0, none⟩) (acc.length + 1) cap) (by simpa [Value.ownBlock] using hGg)
    rw [List.length_append, List.flatten_append]; simpa [five] using this
  · refine Trees.append (D2 := Fresh W w1) (ys := [y]) (dss := [five y yI yK]) ⟨Fresh W w1, fun _ => False, fun _ h => h, fun _ h => h.elim, ⟨yI, yK, rfl, Tree.base (by omega) y (hy.keep y (fun b hb => hold b hb.2 (by have := hb.1; omega) (fun e => by have := (hr0 b e.symm).2; have := hb.1; omega)) fun _ h => h)⟩, trivial⟩
      (h0.trees.keep _ (fun b hb' => (hold b (by have := hb'.2.1; omega) (by have := hb'.1; omega) (fun e => hb'.2.2.1 e.symm)).trans (hb.block b hb'.2.1)) (fun _ h => h)) (fun b hb' => ?_) (fun b hb' => ?_)
    · exact ⟨⟨hb'.1, by rw [hsz3]; have := hb'.2.1; omega, hg b (by have := hb'.2.1; omega) (fun e => hb'.2.2.1 e.symm), hb'.2.2.2⟩, fun e => by have := e.1; have := hb'.2.1; omega⟩
    · exact ⟨by have := hb'.1; omega, by rw [hsz3]; have := hb'.2; omega, hg b hb'.2 (fun e => by have := (hr0 b e.symm).2; have := hb'.1; omega), fun e => by have := (hk0 b e).2; have := hb'.1; omega⟩
  · exact own_stays e7 (fun b hb => hold b (by have := (hk0 b hb).2; omega) (by have := (hk0 b hb).1; omega) (fun e => h0.apart b hb e.symm))
theorem strs_size {w : World} {B d : Nat} {K : Option Addr} {ks : List ByteArray} (h : Strs w B K d ks) : ∀ k ∈ ks, k.size ≤ maxLen := fun k hk => by
  obtain ⟨j, hj, rfl⟩ := List.getElem_of_mem hk
  rcases h.2.2 with rfl | ⟨b, o, rfl, hb, hf⟩
  · simp at hj
  · exact (hf.at_ (List.getElem?_eq_getElem hj)).2
/-- What is answered. -/
theorem CT.done (h : CT w x vK acc rI css W) (ha : acc = x.items) (ht : x.text.size ≤ maxLen) (hks : ∀ k ∈ x.keys, k.size ≤ maxLen) : ∃ A c, rI = .slice A x.items.length c ∧ ∀ u0 u1 u2 u3 u4, Tree (put5 W (w.heap.size + 1) 0 u0 u1 u2 u3 u4) w.heap.size x rI vK (Fresh w (put5 W (w.heap.size + 1) 0 u0 u1 u2 u3 u4)) ∧ Below w.heap.size w (put5 W (w.heap.size + 1) 0 u0 u1 u2 u3 u4) := by
  subst ha
  obtain ⟨h1, h2, h3, h4, h5, h6, h7⟩ := h
  obtain ⟨A, c, e⟩ := own_form h4
  refine ⟨A, c, e, fun u0 u1 u2 u3 u4 => ⟨?_, ?_⟩⟩
  · have hs := put5_size W (w.heap.size + 1) 0 u0 u1 u2 u3 u4
    have hk : ∀ b, w.heap.size + 2 ≤ b → (put5 W (w.heap.size + 1) 0 u0 u1 u2 u3 u4).heap[b]? = W.heap[b]? := fun b hb => put5_heap W (w.heap.size + 1) 0 u0 u1 u2 u3 u4 (by omega)
    have l4 := World.ownsRow.lt h4
    have l6 := World.ownsRow.lt h6
    obtain ⟨k, i, t, l, ks⟩ := x
    exact ⟨ht, hks, own_base (own_stays h6 (fun b hb => hk b (l6 b hb).1)) (by omega), fun b hb => ⟨by have := (l4 b hb).1; omega, by rw [hs]; exact (l4 b hb).2⟩, fun b hb => ⟨⟨by have := (l6 b hb).1; omega, by rw [hs]; exact (l6 b hb).2⟩, h7 b hb⟩, css, own_base (own_stays h4 (fun b hb => hk b (l4 b hb).1)) (by omega),
      Trees.base (by omega) _ (h5.keep _ (fun b hb => hk b hb.1) (fun b hb => ⟨⟨by have := hb.1; omega, by rw [hs]; exact hb.2.1⟩, hb.2.2⟩))⟩
  · exact ((((h1.setCell (by simp) _).setCell (by simp) _).setCell (by simp) _).setCell (by simp) _).setCell (by simp) _
end
theorem CT.start {w W1 : World} {x : V} {A K K1 : Option Addr} {c d d1 : Nat}
    (hb : Below ((w.alloc (.cells #[.int .i64 x.kind, .int .i64 x.int, .string x.text, .slice A x.items.length c, .slice K x.keys.length d] 27)).alloc (.cells zeroF 27)).heap.size ((w.alloc (.cells #[.int .i64 x.kind, .int .i64 x.int, .string x.text, .slice A x.items.length c, .slice K x.keys.length d] 27)).alloc (.cells zeroF 27)) W1)
    (hk : W1.ownsRow ((w.alloc (.cells #[.int .i64 x.kind, .int .i64 x.int, .string x.text, .slice A x.items.length c, .slice K x.keys.length d] 27)).alloc (.cells zeroF 27)).heap.size 9 1 (.slice K1 x.keys.length d1) x.keys.length (x.keys.map Value.string)) :
    CT w x (.slice K1 x.keys.length d1) [] (.slice none 0 0) [] ((W1.setCell ⟨w.heap.size, 4, none⟩ (.slice K1 x.keys.length d1)).setCell ⟨w.heap.size, 3, none⟩ (.slice none 0 0)) := by
  have h1 := below_on (below_al (below_al (Below.refl _ w) (.cells #[.int .i64 x.kind, .int .i64 x.int, .string x.text, .slice A x.items.length c, .slice K x.keys.length d] 27)) (.cells zeroF 27)) hb
  have bv := ((BlockIs.new w 27 #[.int .i64 x.kind, .int .i64 x.int, .string x.text, .slice A x.items.length c, .slice K x.keys.length d]).alloc (.cells zeroF 27)).below hb (by simp; omega)
  have br : BlockIs W1 (w.heap.size + 1) 27 zeroF := (BlockIs.newAt _ _ _ (by simp)).below hb (by simp)
  have hk2 : W1.ownsRow (w.heap.size + 2) 9 1 (.slice K1 x.keys.length d1) x.keys.length (x.keys.map Value.string) := own_base hk (by simp)
  have hlt := World.ownsRow.lt hk2
  refine ⟨(h1.setCell (by simp) _).setCell (by simp) _, ?_, (br.far (by simp) _).far (by simp) _, World.ownsRow_nil _ _ _ _, trivial, ?_, fun b _ e => by simp [Value.ownBlock] at e⟩
  · have := (bv.set_ 4 (.slice K1 x.keys.length d1)).set_ 3 (.slice none 0 0)
    simpa using this
  · exact own_stays hk2 (fun b hb => by rw [Below.heap_setCell _ _ _ _ (show b ≠ w.heap.size by have := (hlt b hb).1; omega), Below.heap_setCell _ _ _ _ (show b ≠ w.heap.size by have := (hlt b hb).1; omega)])
set_option maxRecDepth 100000 in
set_option maxHeartbeats 16000000 in
theorem copiedT_step (x : V) (w : World) (A K : Option Addr) (c d : Nat) (h60 : x.nodes ≤ 5000) (hok : x.ok = true) (h : Lies w w.heap.size x A c K d)
    (ih : ∀ y ∈ x.items, ∀ (W : World) (A K : Option Addr) (c d : Nat), Lies W W.heap.size y A c K d → Calls Tryz.prog 19 #[.agg #[.int .i64 y.kind, .int .i64 y.int, .string y.text, .slice A y.items.length c, .slice K y.keys.length d]] W fun e w' => ∃ yI yK, e = .returned (.agg #[.int .i64 y.kind, .int .i64 y.int, .string y.text, yI, yK]) ∧ Tree w' W.heap.size y yI yK (Fresh W w') ∧ Below W.heap.size W w') :
    Calls Tryz.prog 19 #[.agg #[.int .i64 x.kind, .int .i64 x.int, .string x.text, .slice A x.items.length c, .slice K x.keys.length d]] w fun e w' => ∃ xI xK, e = .returned (.agg #[.int .i64 x.kind, .int .i64 x.int, .string x.text, xI, xK]) ∧ Tree w' w.heap.size x xI xK (Fresh w w') ∧ Below w.heap.size w w' := by
  obtain ⟨iv0, hiv, hzv0, hzv1, hzv2⟩ := info_parts (P := Tryz.prog) (e := 27) (z := .agg zeroF) (size := 5) (bytes := 80) (by kernel_rfl)
  have hn60 : x.items.length ≤ 5000 := by have := nodes_items x; have := length_le_nodesL x.items; omega
  have hkl : x.keys.length ≤ 1000000 := by
    obtain ⟨-, h1, h2⟩ := okk hok
    by_cases h5 : x.kind = 5
    · rw [h2 h5]; omega
    · rw [h1 h5]; exact Nat.zero_le _
  have HT := Lib.hid (And.intro (lies_text h) (strs_size (lies_keys h)))
  have HX := Lib.hid fun W (hW : Below w.heap.size w W) => lies_on h hW
  have HI := Lib.hid ih
  have hb0 := below_al (below_al (Below.refl _ w) (.cells #[.int .i64 x.kind, .int .i64 x.int, .string x.text, .slice A x.items.length c, .slice K x.keys.length d] 27)) (.cells zeroF 27)
  obtain ⟨K1, d1, W1, hrun, hK1, hb1⟩ := append_own 25 _ K d x.keys (lies_keys (lies_on h hb0)) hkl
  have HRUN := Lib.hid hrun
  have HCS0 := Lib.hid (CT.start hb1 hK1)
  have hbv := ((BlockIs.new w 27 #[.int .i64 x.kind, .int .i64 x.int, .string x.text, .slice A x.items.length c, .slice K x.keys.length d]).alloc (.cells zeroF 27)).below hb1 (by simp; omega)
  have g3 : W1.cell? ⟨w.heap.size, 3, none⟩ = some (.slice A x.items.length c) := hbv.cell 3
  have g4 : W1.cell? ⟨w.heap.size, 4, none⟩ = some (.slice K x.keys.length d) := hbv.cell 4
  have f3 : W1.frozen? ⟨w.heap.size, 3, none⟩ = false := hbv.frozen 3
  have f4 : W1.frozen? ⟨w.heap.size, 4, none⟩ = false := hbv.frozen 4
  have gl : w.heap.size < W1.heap.size := hbv.lt
  obtain ⟨n, hn⟩ : ∃ n, n = x.items.length := ⟨_, rfl⟩
  have HN := Lib.hid hn
  clear hrun hK1 hb1 hb0 hbv h ih hok hn
  go_enter Tryz.func19, Tryz.ntmps19
  go_wp2_with (at_builtin; refine Lib.wpList_append_run _ rfl _ _ _ _ rfl _ _ rfl rfl _ _ HRUN.out ?_)
  clear g3 g4 f3 f4 gl
  go_loopw [15] (fun iv wr => ∃ j : Nat, iv = .int .i64 j ∧ j ≤ x.items.length ∧ Hid (∃ rI css acc, acc = x.items.take j ∧ acc.length = j ∧ CT w x (.slice K1 x.keys.length d1) acc rI css wr)) (fun iv _ => x.items.length - (intOf iv).toNat)
  case atStart => exact ⟨0, rfl, Nat.zero_le _, Lib.hid ⟨_, _, _, rfl, rfl, HCS0.out⟩⟩
  case round =>
    obtain ⟨j, rfl, hj, hI⟩ := hrel
    clear HCS0 HRUN
    obtain ⟨rI, css, acc, ha, hal, hC⟩ := hI.out
    have HAC := Lib.hid ha
    have HAL := Lib.hid hal
    have HC := Lib.hid hC
    obtain ⟨RA, rc, rfl⟩ := own_form hC.items
    clear hI ha hC
    by_cases hlt : j < x.items.length
    · obtain ⟨y, hy⟩ : ∃ y, x.items[j]? = some y := ⟨_, List.getElem?_eq_getElem hlt⟩
      rcases (lies_items (HX.out _ HC.out.old)).2.2 with hnil | ⟨b, o, rfl, hbB, hf⟩
      · rw [hnil] at hlt; simp at hlt
      · obtain ⟨Ay, cy, Ky, dy, e0, e1, e2, e3, e4, hly⟩ := hf.at_ hy
        have HY := Lib.hid hy
        have HLY := Lib.hid hly
        have hjn : (j : Int) < x.items.length := by omega
        have hj0 : 0 ≤ (j : Int) := by omega
        have hac60 : acc.length ≤ 5000 := by omega
        have HBV := Lib.hid (show BlockIs (wr.alloc (.cells #[.int .i64 y.kind, .int .i64 y.int, .string y.text, .slice Ay y.items.length cy, .slice Ky y.keys.length dy] 27)).drew w.heap.size 27 #[.int .i64 x.kind, .int .i64 x.int, .string x.text, .slice RA acc.length rc, .slice K1 x.keys.length d1] from HC.out.bv.alloc _)
        have HCA := Lib.hid (HC.out.below (below_al (Below.refl _ wr) (.cells #[.int .i64 y.kind, .int .i64 y.int, .string y.text, .slice Ay y.items.length cy, .slice Ky y.keys.length dy] 27)).drew)
        have g3 : wr.cell? ⟨w.heap.size, 3, none⟩ = some (.slice RA acc.length rc) := HC.out.bv.cell 3
        have f3 : wr.frozen? ⟨w.heap.size, 3, none⟩ = false := HC.out.bv.frozen 3
        have gl : w.heap.size < wr.heap.size := HC.out.bv.lt
        have hac : (acc.length : Int) = j := by omega
        have HNE := Lib.hid (show some w.heap.size ≠ (Value.slice RA acc.length rc).ownBlock from fun e => by have := (World.ownsRow.lt HC.out.items _ e.symm).1; omega)
        have HZ2 := Lib.hid (show ∀ N : Nat, (wr.alloc (.cells #[.int .i64 y.kind, .int .i64 y.int, .string y.text, .slice Ay y.items.length cy, .slice Ky y.keys.length dy] 27)).drew.heap.size ≤ N → w.heap.size + 2 ≤ N from fun N h => by have := HC.out.br.lt; simp at h; omega)
        clear hy hly hf hal
        go_wp2_with fail
        go_region_law (first
          | (refine step_append_lies _ (by rfl) _ _ 24 (by rfl) (w.heap.size + 2) 27 iv0 (.agg zeroF) 5 80 Tryz.underlying24 hiv hzv0 hzv1 hzv2 (by rfl) (by omega) (.slice RA acc.length rc) acc.length css.flatten (by rfl) (own_heap (World.ownsRow.alloc (HCA.out.below hb2).items (.cells #[.int .i64 y.kind, .int .i64 y.int, .string y.text, .slice A2 y.items.length c2, .slice K2 y.keys.length q2] 27)) rfl) ⟨w1.heap.size, 0, none⟩ 1 1 (fieldsL y A2 c2 K2 q2) (by rfl) (by rfl) (World.news_of_block (fr := (0, 0)) (t := 27) (cs := #[.int .i64 y.kind, .int .i64 y.int, .string y.text, .slice A2 y.items.length c2, .slice K2 y.keys.length q2]) (BlockIs.new w1 _ _)) (by intro u hu; simp [fieldsL] at hu; rcases hu with rfl | rfl | rfl | rfl | rfl <;> rfl) (by omega) (by unfold maxLen; omega) (by omega) (by simp; omega) (w1.heap.size + 1) (by simp) ?_; intro g' cap w5 hown hgrow hat hlt'; have hbG := (hbv.alloc (.cells #[.int .i64 y.kind, .int .i64 y.int, .string y.text, .slice A2 y.items.length c2, .slice K2 y.keys.length q2] 27)).grown hgrow HNE.out; have gG : w.heap.size < w5.heap.size := BlockIs.lt hbG; have gc : w5.cell? ⟨w.heap.size, 3, none⟩ = some _ := BlockIs.cell hbG 3; have gf : w5.frozen? ⟨w.heap.size, 3, none⟩ = false := BlockIs.frozen hbG 3)
          | (go_simp; go_at_call 19; refine (HI.out y (List.mem_of_getElem? HY.out) _ Ay Ky cy dy (lies_drew (lies_alloc HLY.out _))).mono ?_; rintro e w1 ⟨yI2, yK2, rfl, hl2, hb2⟩; obtain ⟨⟨A2, c2, rfl⟩, K2, q2, rfl⟩ := hl2.forms; have hbv := HBV.out.below hb2 HBV.out.lt; have g3' : w1.cell? ⟨w.heap.size, 3, none⟩ = some (.slice RA acc.length rc) := BlockIs.cell hbv 3; have f3' : w1.frozen? ⟨w.heap.size, 3, none⟩ = false := BlockIs.frozen hbv 3; have gl' : w.heap.size < w1.heap.size := BlockIs.lt hbv; have gz : w.heap.size + 2 ≤ w1.heap.size := HZ2.out _ hb2.size))
        all_goals
          have HN := Lib.hid (HC.out.item (below_on (below_al (Below.refl _ wr) (.cells #[.int .i64 y.kind, .int .i64 y.int, .string y.text, .slice Ay y.items.length cy, .slice Ky y.keys.length dy] 27)).drew hb2) (Tree.keep y (Tree.base (by simp) y hl2) (fun _ _ => rfl) (fun b hb => ⟨by have := hb.1; simp at this; omega, hb.2⟩)) (World.grownBy_alloc _ _ _) hgrow (by simpa using hat) hown)
          clear hbv g3' f3' gl' gz hown hgrow hat hlt' hbG gG gc gf hl2 hb2 g3 f3 gl HBV HCA HNE HC e0 e1 e2 e3 e4
          go_wp2_with fail
          go_roundw
          case rel =>
            refine ⟨j + 1, by go_num, by omega, Lib.hid ⟨_, _, acc ++ [y], ?_, by simp; omega, HN.out⟩⟩
            rw [List.take_add_one, HY.out, HAC.out]
            rfl
          case measure => simp [intOf]; omega
    · have hjn : ¬ ((j : Int) < x.items.length) := by omega
      have ha : acc = x.items := by
        rw [HAC.out, List.take_of_length_le (by omega)]
      obtain ⟨A9, c9, e1, hD⟩ := HC.out.done ha HT.out.1 HT.out.2
      rw [e1] at hD
      have HD := Lib.hid hD
      obtain ⟨b0, b1, b2, b3, b4⟩ := five_of HC.out.bv
      obtain ⟨z0, z1, z2, z3, z4⟩ := five_of (show BlockIs wr (w.heap.size + 1) 27 #[.int .i64 0, .int .i64 0, .string ⟨#[]⟩, .slice none 0 0, .slice none 0 0] from HC.out.br)
      have x0 := HC.out.br.frozen 0
      have x1 := HC.out.br.frozen 1
      have x2 := HC.out.br.frozen 2
      have x3 := HC.out.br.frozen 3
      have x4 := HC.out.br.frozen 4
      have zl := HC.out.br.lt
      rw [e1] at b3
      clear e1 hD ha HC
      go_wp2_with fail
      refine bodyPost_ret (v := .agg #[.int .i64 x.kind, .int .i64 x.int, .string x.text, .slice A9 x.items.length c9, .slice K1 x.keys.length d1]) (by simp [results, Tryz.results19, go_sem, z0, z1, z2, z3, z4]) rfl ?_
      exact ⟨_, _, rfl, (HD.out _ _ _ _ _).1, (HD.out _ _ _ _ _).2⟩
theorem copied_tree : ∀ (N : Nat) (x : V) (w : World) (A K : Option Addr) (c d : Nat), x.nodes ≤ N → x.nodes ≤ 5000 → x.ok = true → Lies w w.heap.size x A c K d →
    Calls Tryz.prog 19 #[.agg #[.int .i64 x.kind, .int .i64 x.int, .string x.text, .slice A x.items.length c, .slice K x.keys.length d]] w fun e w' => ∃ xI xK, e = .returned (.agg #[.int .i64 x.kind, .int .i64 x.int, .string x.text, xI, xK]) ∧ Tree w' w.heap.size x xI xK (Fresh w w') ∧ Below w.heap.size w w'
  | 0, x, _, _, _, _, _, hN, _, _, _ => by have := V.nodes_pos x; omega
  | N + 1, x, w, A, K, c, d, hN, h60, hok, h => copiedT_step x w A K c d h60 hok h fun y hy W A K c d hl =>
    copied_tree N y W A K c d (by have := V.nodes_mem hy; have := nodes_items x; omega) (by have := V.nodes_mem hy; have := nodes_items x; omega) (okItems hok y hy) hl
end Go.Proofs.YtchadlbhdcpojaaGreatDoor
