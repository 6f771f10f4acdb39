/- A value behind a pointer, that a call owns: how it stays, grows, and is gone down into. -/
import Derived.Test.YtchadlbhdcpojaaGreatDoorTa
import Derived.Test.YtchadlbhdcpojaaGreatDoorTb
namespace Go.Proofs.YtchadlbhdcpojaaGreatDoor
open Go.RowKit

def five (x : V) (vI vK : Value) : List Value := [.int .i64 x.kind, .int .i64 x.int, .string x.text, vI, vK]
/-- A value in five cells of block g, all that hangs on it in blocks of D. -/
structure Node (W : World) (N g : Nat) (t : TypeId) (pre post : List Value) (x : V) (vI vK : Value) (D : Nat → Prop) : Prop where
  row : BlockIs W g t (pre ++ (five x vI vK ++ post)).toArray
  tree : Tree W N x vI vK D
  far : ¬ D g
  low : ∀ b, D b → N ≤ b ∧ b < W.heap.size
  base : N ≤ g
/-- What is left alone where a call may turn block g, those of D, and new ones. -/
structure Fr (W W' : World) (g : Nat) (D : Nat → Prop) : Prop where
  os : W'.os = W.os
  tape : W'.tape = W.tape
  output : W'.output = W.output
  size : W.heap.size ≤ W'.heap.size
  block : ∀ b, b < W.heap.size → b ≠ g → ¬ D b → W'.heap[b]? = W.heap[b]?
section
variable {W W' W1 W2 : World} {N g : Nat} {t : TypeId} {pre post : List Value} {x y : V} {vI vK : Value} {D D1 : Nat → Prop}
theorem Fr.refl (W : World) (g : Nat) (D : Nat → Prop) : Fr W W g D := ⟨rfl, rfl, rfl, Nat.le_refl _, fun _ _ _ _ => rfl⟩
theorem Fr.trans (h : Fr W W1 g D) (k : Fr W1 W2 g D1) (hD : ∀ b, D1 b → D b ∨ W.heap.size ≤ b) : Fr W W2 g D :=
  ⟨k.os.trans h.os, k.tape.trans h.tape, k.output.trans h.output, Nat.le_trans h.size k.size, fun b hb hg hd => (k.block b (Nat.lt_of_lt_of_le hb h.size) hg (fun e => (hD b e).elim hd (fun h => by omega))).trans (h.block b hb hg hd)⟩
theorem Fr.of_below (h : Below W.heap.size W W') (g : Nat) (D : Nat → Prop) : Fr W W' g D := ⟨h.os, h.tape, h.output, h.size, fun b hb _ _ => h.block b hb⟩
theorem Fr.below (h : Fr W W' g D) (hg : N ≤ g) (hD : ∀ b, D b → N ≤ b) (hN : N ≤ W.heap.size) : Below N W W' := ⟨h.os, h.tape, h.output, h.size, fun b hb => h.block b (by omega) (by omega) (fun e => by have := hD b e; omega)⟩
theorem Node.on (h : Node W N g t pre post x vI vK D) (hb : Below W.heap.size W W') : Node W' N g t pre post x vI vK D :=
  ⟨h.row.below hb h.row.lt, h.tree.keep x (fun b hd => hb.block b (h.low b hd).2) (fun _ h => h), h.far, fun b hd => ⟨(h.low b hd).1, by have := (h.low b hd).2; have := hb.size; omega⟩, h.base⟩
theorem Node.lies (h : Node W N g t pre post x vI vK D) : ∃ A c K d, vI = .slice A x.items.length c ∧ vK = .slice K x.keys.length d ∧ Lies W W.heap.size x A c K d := h.tree.lies x fun b hd => (h.low b hd).2
theorem block_at {W : World} {g : Nat} {t : TypeId} {pre post cs : List Value} (h : BlockIs W g t (pre ++ (cs ++ post)).toArray) {i : Nat} {u : Value} (hi : cs[i]? = some u) : W.cell? ⟨g, pre.length + i, none⟩ = some u := by
  have hl := (List.getElem?_eq_some_iff.1 hi).1
  rw [h.cell, List.getElem?_toArray, List.getElem?_append_right (by omega), Nat.add_sub_cancel_left, List.getElem?_append_left hl, hi]
theorem Node.cells (h : Node W N g t pre post x vI vK D) : W.cell? ⟨g, pre.length, none⟩ = some (.int .i64 x.kind) ∧ W.cell? ⟨g, pre.length + 1, none⟩ = some (.int .i64 x.int) ∧ W.cell? ⟨g, pre.length + 2, none⟩ = some (.string x.text) ∧ W.cell? ⟨g, pre.length + 3, none⟩ = some vI ∧ W.cell? ⟨g, pre.length + 4, none⟩ = some vK :=
  ⟨block_at h.row (i := 0) rfl, block_at h.row (i := 1) rfl, block_at h.row (i := 2) rfl, block_at h.row (i := 3) rfl, block_at h.row (i := 4) rfl⟩
theorem Node.frozen (h : Node W N g t pre post x vI vK D) : W.frozen? ⟨g, pre.length, none⟩ = false ∧ W.frozen? ⟨g, pre.length + 1, none⟩ = false ∧ W.frozen? ⟨g, pre.length + 2, none⟩ = false ∧ W.frozen? ⟨g, pre.length + 3, none⟩ = false ∧ W.frozen? ⟨g, pre.length + 4, none⟩ = false ∧ g < W.heap.size :=
  ⟨h.row.frozen _, h.row.frozen _, h.row.frozen _, h.row.frozen _, h.row.frozen _, h.row.lt⟩
theorem block_set {W : World} {g : Nat} {t : TypeId} {pre post cs : List Value} (h : BlockIs W g t (pre ++ (cs ++ post)).toArray) (i : Nat) (hi : i < cs.length) (u : Value) : BlockIs (W.setCell ⟨g, pre.length + i, none⟩ u) g t (pre ++ (cs.set i u ++ post)).toArray := by
  have h1 := h.set_ (pre.length + i) u
  have e : ((pre ++ (cs ++ post)).toArray.setIfInBounds (pre.length + i) u) = (pre ++ (cs.set i u ++ post)).toArray := by
    rw [List.setIfInBounds_toArray, List.set_append_right _ _ (by omega), Nat.add_sub_cancel_left, List.set_append_left _ _ hi]
  rw [e] at h1
  exact h1
/-- The kind is laid. -/
theorem Node.kind (h : Node W N g t pre post x vI vK D) (k : Int) : Node (W.setCell ⟨g, pre.length, none⟩ (.int .i64 k)) N g t pre post (.mk k x.int x.text x.items x.keys) vI vK D := by
  have hr := block_set h.row 0 (by simp [five]) (.int .i64 k)
  rw [Nat.add_zero] at hr
  refine ⟨by simpa [five, mkK, mkN, mkT] using hr, ?_, h.far, fun b hd => ⟨(h.low b hd).1, by have := (h.low b hd).2; simpa [World.setCell] using this⟩, h.base⟩
  have ht := h.tree.keep (w' := W.setCell ⟨g, pre.length, none⟩ (.int .i64 k)) x (fun b hd => Below.heap_setCell _ _ _ _ (fun e => h.far (by have e' : b = g := e; rw [← e']; exact hd))) (fun _ h => h)
  cases x
  exact ht
end
theorem flat_take5 : ∀ (i : Nat) {L : List (List Value)}, (∀ cs ∈ L, cs.length = 5) → (L.take i).flatten = L.flatten.take (i * 5) ∧ (L.drop i).flatten = L.flatten.drop (i * 5)
  | 0, L, _ => by simp
  | i + 1, [], _ => by simp
  | i + 1, x :: r, h => by
    have h1 := flat_take5 i (fun cs hc => h cs (List.mem_cons_of_mem _ hc))
    have hx := h x List.mem_cons_self
    rw [List.take_succ_cons, List.drop_succ_cons, List.flatten_cons, List.flatten_cons, h1.1, h1.2, show (i + 1) * 5 = x.length + i * 5 by omega]
    constructor
    · exact (List.take_length_add_append (i * 5)).symm
    · exact (List.drop_length_add_append (i * 5)).symm
theorem flat_ins5 {L : List (List Value)} (h : ∀ cs ∈ L, cs.length = 5) (i : Nat) (cs : List Value) : (L.take i ++ cs :: L.drop i).flatten = L.flatten.take (i * 5) ++ cs ++ L.flatten.drop (i * 5) := by
  rw [List.flatten_append, List.flatten_cons, (flat_take5 i h).1, (flat_take5 i h).2, List.append_assoc]
theorem flat_len5 {L : List (List Value)} (h : ∀ cs ∈ L, cs.length = 5) : L.flatten.length = L.length * 5 := by
  induction L with
  | nil => rfl
  | cons a r ih => rw [List.flatten_cons, List.length_append, ih (fun cs hc => h cs (List.mem_cons_of_mem _ hc)), h a List.mem_cons_self, List.length_cons]; omega
section
variable {W W' : World} {N g i : Nat} {t : TypeId} {pre post : List Value} {x : V} {vI vK v' : Value} {D : Nat → Prop}
/-- The rows of a node. -/
theorem Node.rows (h : Node W N g t pre post x vI vK D) : ∃ css, W.ownsRow N 27 5 vI x.items.length css.flatten ∧ Trees W N x.items css (fun b => D b ∧ vI.ownBlock ≠ some b ∧ vK.ownBlock ≠ some b) ∧ W.ownsRow N 9 1 vK x.keys.length (x.keys.map Value.string) ∧
    (∀ b, vI.ownBlock = some b → D b) ∧ (∀ b, vK.ownBlock = some b → D b ∧ vI.ownBlock ≠ some b) ∧ x.text.size ≤ maxLen ∧ (∀ k ∈ x.keys, k.size ≤ maxLen) := by
  have ht := h.tree
  cases x
  obtain ⟨h1, h2, h3, h4, h5, css, h6, h7⟩ := ht
  exact ⟨css, h6, h7, h3, h4, h5, h1, h2⟩
/-- A node whose items were given a place for one more. -/
theorem Node.insI (h : Node W N g t pre post x vI vK D) (_hi : i ≤ x.items.length) {css : List (List Value)} (_hcs : W.ownsRow N 27 5 vI x.items.length css.flatten) (htr : Trees W N x.items css (fun b => D b ∧ vI.ownBlock ≠ some b ∧ vK.ownBlock ≠ some b))
    (hown : W'.ownsRow N 27 5 v' (x.items.length + 1) (css.flatten.take (i * 5) ++ five nullV (.slice none 0 0) (.slice none 0 0) ++ css.flatten.drop (i * 5))) (hg : W.grownBy W' vI.ownBlock) (hw : v'.ownBlock = vI.ownBlock ∨ ∃ n c, v' = .slice (some ⟨W.heap.size, 0, none⟩) n c) :
    Node (W'.setCell ⟨g, pre.length + 3, none⟩ v') N g t pre post (.mk x.kind x.int x.text (x.items.take i ++ nullV :: x.items.drop i) x.keys) v' vK (fun b => D b ∨ (W.heap.size ≤ b ∧ b < W'.heap.size)) ∧ Fr W (W'.setCell ⟨g, pre.length + 3, none⟩ v') g D := by
  obtain ⟨-, -, -, hk, hI, hK, htx, hks⟩ := h.rows
  have hgW := h.row.lt
  have hNW : N ≤ W.heap.size := by have := h.base; omega
  have hsz := hg.size
  have hv' : ∀ b, v'.ownBlock = some b → (vI.ownBlock = some b ∨ b = W.heap.size) ∧ b < W'.heap.size := fun b hb => by
    refine ⟨?_, (World.ownsRow.lt hown b hb).2⟩
    rcases hw with hw | ⟨n, c, rfl⟩
    · exact .inl (by rw [← hw]; exact hb)
    · simp [Value.ownBlock] at hb; exact .inr hb.symm
  have hgne : ∀ b, v'.ownBlock = some b → b ≠ g := fun b hb e => by
    subst e
    rcases (hv' b hb).1 with h1 | h1
    · exact h.far (hI b h1)
    · omega
  have hstay : ∀ b, b < W.heap.size → b ≠ g → vI.ownBlock ≠ some b → (W'.setCell ⟨g, pre.length + 3, none⟩ v').heap[b]? = W.heap[b]? := fun b hb hbg hbI => by
    rw [Below.heap_setCell _ _ _ _ hbg, hg.block b hb (fun e => hbI e.symm)]
  have hss : (W'.setCell ⟨g, pre.length + 3, none⟩ v').heap.size = W'.heap.size := by simp [World.setCell]
  refine ⟨⟨?_, ?_, ?_, ?_, h.base⟩, ⟨hg.os, hg.tape, hg.output, by rw [hss]; exact hsz, fun b hb hbg hd => hstay b hb hbg (fun e => hd (hI b e))⟩⟩
  · have hr : BlockIs W' g t (pre ++ (five x vI vK ++ post)).toArray := h.row.grown hg (fun e => h.far (hI g e.symm))
    have := block_set hr 3 (by simp [five]) v'
    simpa [five, mkK, mkN, mkT] using this
  · refine ⟨htx, hks, own_stays hk (fun b hb => hstay b (h.low b (hK b hb).1).2 (fun e => h.far (by rw [← e]; exact (hK b hb).1)) (hK b hb).2), fun b hb => ?_, fun b hb => ⟨.inl (hK b hb).1, fun e => ?_⟩, css.take i ++ five nullV (.slice none 0 0) (.slice none 0 0) :: css.drop i, ?_, ?_⟩
    · rcases (hv' b hb).1 with h1 | h1
      · exact .inl (hI b h1)
      · exact .inr ⟨by omega, (hv' b hb).2⟩
    · rcases (hv' b e).1 with h1 | h1
      · exact (hK b hb).2 h1
      · have := (h.low b (hK b hb).1).2; omega
    · rw [flat_ins5 htr.five, show (x.items.take i ++ nullV :: x.items.drop i).length = x.items.length + 1 by rw [List.length_append, List.length_cons, List.length_take, List.length_drop]; omega]
      exact own_stays hown (fun b hb => Below.heap_setCell _ _ _ _ (hgne b hb))
    · obtain ⟨E1, E2, h1, h2, h3, h4⟩ := htr.split i
      have hE : ∀ b, D b ∧ vI.ownBlock ≠ some b ∧ vK.ownBlock ≠ some b → (W'.setCell ⟨g, pre.length + 3, none⟩ v').heap[b]? = W.heap[b]? := fun b hb => hstay b (h.low b hb.1).2 (fun e => h.far (by rw [← e]; exact hb.1)) hb.2.1
      have hnew : ∀ b, D b ∧ vI.ownBlock ≠ some b ∧ vK.ownBlock ≠ some b → (D b ∨ (W.heap.size ≤ b ∧ b < W'.heap.size)) ∧ v'.ownBlock ≠ some b ∧ vK.ownBlock ≠ some b := fun b hb => ⟨.inl hb.1, fun e => by
        rcases (hv' b e).1 with h1 | h1
        · exact hb.2.1 h1
        · have := (h.low b hb.1).2; omega, hb.2.2⟩
      exact Trees.join (h1.keep _ (fun b hb => hE b (h3 b hb).1) fun _ h => h) (tree_leaf _ N 0 0 (by decide) (fun _ => False)) (h2.keep _ (fun b hb => hE b (h4 b hb)) fun _ h => h) (fun b hb => ⟨hnew b (h3 b hb).1, fun h => h, (h3 b hb).2⟩) (fun _ h => h.elim) (fun b hb => hnew b (h4 b hb))
  · rintro (hd | hd)
    · exact h.far hd
    · omega
  · rintro b (hd | hd)
    · exact ⟨(h.low b hd).1, by rw [hss]; have := (h.low b hd).2; omega⟩
    · exact ⟨by omega, by rw [hss]; exact hd.2⟩
/-- A node whose keys were given one more. -/
theorem Node.insK (h : Node W N g t pre post x vI vK D) {k : ByteArray} (hkk : k.size ≤ maxLen) (hi : i ≤ x.keys.length)
    (hown : W'.ownsRow N 9 1 v' (x.keys.length + 1) ((x.keys.map Value.string).take (i * 1) ++ [Value.string k] ++ (x.keys.map Value.string).drop (i * 1))) (hg : W.grownBy W' vK.ownBlock) (hw : v'.ownBlock = vK.ownBlock ∨ ∃ n c, v' = .slice (some ⟨W.heap.size, 0, none⟩) n c) :
    Node (W'.setCell ⟨g, pre.length + 4, none⟩ v') N g t pre post (.mk x.kind x.int x.text x.items (x.keys.take i ++ k :: x.keys.drop i)) vI v' (fun b => D b ∨ (W.heap.size ≤ b ∧ b < W'.heap.size)) ∧ Fr W (W'.setCell ⟨g, pre.length + 4, none⟩ v') g D := by
  obtain ⟨css, hcs, htr, hk, hI, hK, htx, hks⟩ := h.rows
  have hgW := h.row.lt
  have hsz := hg.size
  have hNW : N ≤ W.heap.size := by have := h.base; omega
  have hv' : ∀ b, v'.ownBlock = some b → (vK.ownBlock = some b ∨ b = W.heap.size) ∧ b < W'.heap.size := fun b hb => by
    refine ⟨?_, (World.ownsRow.lt hown b hb).2⟩
    rcases hw with hw | ⟨n, c, rfl⟩
    · exact .inl (by rw [← hw]; exact hb)
    · simp [Value.ownBlock] at hb; exact .inr hb.symm
  have hgne : ∀ b, v'.ownBlock = some b → b ≠ g := fun b hb e => by
    subst e
    rcases (hv' b hb).1 with h1 | h1
    · exact h.far (hK b h1).1
    · omega
  have hstay : ∀ b, b < W.heap.size → b ≠ g → vK.ownBlock ≠ some b → (W'.setCell ⟨g, pre.length + 4, none⟩ v').heap[b]? = W.heap[b]? := fun b hb hbg hbI => by
    rw [Below.heap_setCell _ _ _ _ hbg, hg.block b hb (fun e => hbI e.symm)]
  have hss : (W'.setCell ⟨g, pre.length + 4, none⟩ v').heap.size = W'.heap.size := by simp [World.setCell]
  have hIlt := World.ownsRow.lt hcs
  refine ⟨⟨?_, ?_, ?_, ?_, h.base⟩, ⟨hg.os, hg.tape, hg.output, by rw [hss]; exact hsz, fun b hb hbg hd => hstay b hb hbg (fun e => hd (hK b e).1)⟩⟩
  · have hr : BlockIs W' g t (pre ++ (five x vI vK ++ post)).toArray := h.row.grown hg (fun e => h.far (hK g e.symm).1)
    have := block_set hr 4 (by simp [five]) v'
    simpa [five, mkK, mkN, mkT] using this
  · refine ⟨htx, fun q hq => ?_, ?_, fun b hb => .inl (hI b hb), fun b hb => ⟨?_, fun e => ?_⟩, css, ?_, ?_⟩
    · rcases List.mem_append.1 hq with hq | hq
      · exact hks q (List.mem_of_mem_take hq)
      · rcases List.mem_cons.1 hq with rfl | hq
        · exact hkk
        · exact hks q (List.mem_of_mem_drop hq)
    · have e1 : (x.keys.take i ++ k :: x.keys.drop i).length = x.keys.length + 1 := by rw [List.length_append, List.length_cons, List.length_take, List.length_drop]; omega
      have e2 : (x.keys.take i ++ k :: x.keys.drop i).map Value.string = (x.keys.map Value.string).take (i * 1) ++ [Value.string k] ++ (x.keys.map Value.string).drop (i * 1) := by simp [List.map_take, List.map_drop]
      rw [e1, e2]
      exact own_stays hown (fun b hb => Below.heap_setCell _ _ _ _ (hgne b hb))
    · rcases (hv' b hb).1 with h1 | h1
      · exact .inl (hK b h1).1
      · exact .inr ⟨by omega, (hv' b hb).2⟩
    · rcases (hv' b hb).1 with h1 | h1
      · exact (hK b h1).2 e
      · have := (h.low b (hI b e)).2; omega
    · exact own_stays hcs (fun b hb => hstay b (h.low b (hI b hb)).2 (fun e => h.far (by rw [← e]; exact hI b hb)) (fun e => (hK b e).2 hb))
    · refine htr.keep _ (fun b hb => hstay b (h.low b hb.1).2 (fun e => h.far (by rw [← e]; exact hb.1)) hb.2.2) (fun b hb => ⟨.inl hb.1, hb.2.1, fun e => ?_⟩)
      rcases (hv' b e).1 with h1 | h1
      · exact hb.2.2 h1
      · have := (h.low b hb.1).2; omega
  · rintro (hd | hd)
    · exact h.far hd
    · omega
  · rintro b (hd | hd)
    · exact ⟨(h.low b hd).1, by rw [hss]; have := (h.low b hd).2; omega⟩
    · exact ⟨by omega, by rw [hss]; exact hd.2⟩
/-- Down to an item, and what is known when it has been turned. -/
theorem Node.down (h : Node W N g t pre post x vI vK D) {y : V} (hy : x.items[i]? = some y) :
    ∃ (gI c : Nat) (pre' post' : List Value) (yI yK : Value) (D0 : Nat → Prop), vI = .slice (some ⟨gI, 0, none⟩) x.items.length c ∧ pre'.length = i * 5 ∧ Node W N gI 27 pre' post' y yI yK D0 ∧ (∀ b, D0 b → D b) ∧ D gI ∧
      ∀ (E : Nat → Prop) (W' : World) (y' : V) (yI' yK' : Value) (D0' : Nat → Prop), (∀ b, E b → ¬ D b ∧ b ≠ g ∧ N ≤ b ∧ b < W.heap.size) → Node W' N gI 27 pre' post' y' yI' yK' D0' → (∀ b, D0' b → D0 b ∨ E b ∨ W.heap.size ≤ b) → Fr W W' gI D0 →
        Node W' N g t pre post (setIt x i y') vI vK (fun b => D b ∨ E b ∨ (W.heap.size ≤ b ∧ b < W'.heap.size)) := by
  obtain ⟨css, hcs, htr, hk, hI, hK, htx, hks⟩ := h.rows
  have hi : i < x.items.length := (List.getElem?_eq_some_iff.1 hy).1
  obtain ⟨E1, E0, E2, yI, yK, hci, t1, t0, t2, d1, d0, d2⟩ := htr.at_ hy
  have hcl := htr.length
  obtain ⟨hl, ⟨rfl, h0⟩ | ⟨gI, c, cur, rfl, hB, hb, hn, hm, hs, htk⟩⟩ := hcs
  · omega
  have hDI : D gI := hI gI rfl
  have hsplit : css = css.take i ++ five y yI yK :: css.drop (i + 1) := by
    have e1 := (List.take_append_drop i css).symm
    rw [drop_at hci] at e1
    exact e1
  have hpre : (css.take i).flatten.length = i * 5 := by rw [flat_len5 (fun cs hc => htr.five cs (List.mem_of_mem_take hc)), List.length_take, Nat.min_eq_left (by omega)]
  have hcur : cur = ((css.take i).flatten ++ (five y yI yK ++ ((css.drop (i + 1)).flatten ++ cur.toList.drop (x.items.length * 5)))).toArray := by
    apply Array.ext'
    rw [List.toList_toArray, ← List.append_assoc (five y yI yK), ← List.append_assoc]
    rw [show (css.take i).flatten ++ (five y yI yK ++ (css.drop (i + 1)).flatten) = css.flatten by
      conv => rhs; rw [hsplit]
      rw [List.flatten_append, List.flatten_cons]]
    rw [← htk, List.take_append_drop]
  refine ⟨gI, c, (css.take i).flatten, (css.drop (i + 1)).flatten ++ cur.toList.drop (x.items.length * 5), yI, yK, E0, rfl, hpre, ⟨?_, t0, fun e => (d0 gI e).1.2.1 rfl, fun b hb => h.low b (d0 b hb).1.1, hB⟩, fun b hb => (d0 b hb).1.1, hDI, ?_⟩
  · show W.heap[gI]? = _
    rw [hb]
    conv => lhs; rw [hcur]
  · intro E W' y' yI' yK' D0' hE hN' hD' hF
    have hgI : g ≠ gI := fun e => h.far (by rw [e]; exact hDI)
    have hgW := h.row.lt
    have hstay : ∀ b, b < W.heap.size → b ≠ gI → ¬ E0 b → W'.heap[b]? = W.heap[b]? := hF.block
    have hEs : ∀ b, E1 b ∨ E2 b → W'.heap[b]? = W.heap[b]? := fun b hb => by
      rcases hb with hb | hb
      · exact hstay b (h.low b (d1 b hb).1.1).2 (fun e => (d1 b hb).1.2.1 (by rw [e]; rfl)) (d1 b hb).2.1
      · exact hstay b (h.low b (d2 b hb).1).2 (fun e => (d2 b hb).2.1 (by rw [e]; rfl)) (fun e => (d0 b e).2 hb)
    refine ⟨h.row.to (hstay g hgW hgI (fun e => h.far (d0 g e).1.1)), ?_, ?_, ?_, h.base⟩
    · refine ⟨htx, hks, own_stays hk (fun b hb => hstay b (h.low b (hK b hb).1).2 (fun e => (hK b hb).2 (by rw [e]; rfl)) (fun e => (d0 b e).1.2.2 hb)), fun b hb => .inl (hI b hb), fun b hb => ⟨.inl (hK b hb).1, (hK b hb).2⟩, css.take i ++ five y' yI' yK' :: css.drop (i + 1), ?_, ?_⟩
      · have hlen : (x.items.set i y').length = x.items.length := List.length_set
        rw [hlen]
        have hfl : (css.take i ++ five y' yI' yK' :: css.drop (i + 1)).flatten.length = x.items.length * 5 := by
          have h5 : ∀ cs ∈ css.take i ++ five y' yI' yK' :: css.drop (i + 1), cs.length = 5 := fun cs hc => by
            rcases List.mem_append.1 hc with hc | hc
            · exact htr.five cs (List.mem_of_mem_take hc)
            · rcases List.mem_cons.1 hc with rfl | hc
              · rfl
              · exact htr.five cs (List.mem_of_mem_drop hc)
          rw [flat_len5 h5, List.length_append, List.length_cons, List.length_take, List.length_drop]
          congr 1; omega
        have hrow := hN'.row
        refine ⟨hfl, .inr ⟨gI, c, _, rfl, hB, hrow.eq, hn, hm, ?_, ?_⟩⟩
        · rw [← hs]
          conv => rhs; rw [hcur]
          simp [five]
        · rw [List.toList_toArray]
          have e : (css.take i).flatten ++ (five y' yI' yK' ++ ((css.drop (i + 1)).flatten ++ cur.toList.drop (x.items.length * 5))) = (css.take i ++ five y' yI' yK' :: css.drop (i + 1)).flatten ++ cur.toList.drop (x.items.length * 5) := by
            rw [List.flatten_append, List.flatten_cons]; simp [List.append_assoc]
          rw [e, List.take_left' hfl]
      · rw [show x.items.set i y' = x.items.take i ++ y' :: x.items.drop (i + 1) from List.set_eq_take_append_cons_drop.trans (by rw [if_pos hi])]
        have hnew : ∀ b, D b ∧ (Value.slice (some ⟨gI, 0, none⟩) x.items.length c).ownBlock ≠ some b ∧ vK.ownBlock ≠ some b → (D b ∨ E b ∨ (W.heap.size ≤ b ∧ b < W'.heap.size)) ∧ (Value.slice (some ⟨gI, 0, none⟩) x.items.length c).ownBlock ≠ some b ∧ vK.ownBlock ≠ some b := fun b hb => ⟨.inl hb.1, hb.2⟩
        refine Trees.join (D0 := D0') (t1.keep _ (fun b hb => hEs b (.inl hb)) fun _ h => h) hN'.tree (t2.keep _ (fun b hb => hEs b (.inr hb)) fun _ h => h) (fun b hb => ⟨hnew b (d1 b hb).1, fun e => ?_, (d1 b hb).2.2⟩) (fun b hb => ⟨?_, fun e => ?_⟩) (fun b hb => hnew b (d2 b hb))
        · rcases hD' b e with e | e | e
          · exact (d1 b hb).2.1 e
          · exact (hE b e).1 (d1 b hb).1.1
          · have := (h.low b (d1 b hb).1.1).2; omega
        · rcases hD' b hb with e | e | e
          · exact hnew b (d0 b e).1
          · exact ⟨.inr (.inl e), fun e2 => (hE b e).1 (hI b e2), fun e2 => (hE b e).1 (hK b e2).1⟩
          · refine ⟨.inr (.inr ⟨e, (hN'.low b hb).2⟩), fun e2 => ?_, fun e2 => ?_⟩
            · have := (h.low b (hI b e2)).2; omega
            · have := (h.low b (hK b e2).1).2; omega
        · rcases hD' b hb with e2 | e2 | e2
          · exact (d0 b e2).2 e
          · exact (hE b e2).1 (d2 b e).1
          · have := (h.low b (d2 b e).1).2; omega
    · rintro (hd | hd | hd)
      · exact h.far hd
      · exact (hE g hd).2.1 rfl
      · omega
    · rintro b (hd | hd | hd)
      · exact ⟨(h.low b hd).1, by have := (h.low b hd).2; have := hF.size; omega⟩
      · exact ⟨(hE b hd).2.2.1, by have := (hE b hd).2.2.2; have := hF.size; omega⟩
      · exact ⟨by have := h.base; omega, hd.2⟩
theorem Fr.up {D0 : Nat → Prop} {gI : Nat} (hF : Fr W W' gI D0) (h0 : ∀ b, D0 b → D b) (hg : D gI) : Fr W W' g D :=
  ⟨hF.os, hF.tape, hF.output, hF.size, fun b hb _ hd => hF.block b hb (fun e => hd (by rw [e]; exact hg)) (fun e => hd (h0 b e))⟩
end
end Go.Proofs.YtchadlbhdcpojaaGreatDoor
