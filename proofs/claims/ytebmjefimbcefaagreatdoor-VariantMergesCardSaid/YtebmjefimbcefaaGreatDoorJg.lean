/- What the definition's merge calls, at a predicate of blocks: its step, an entry laid, an entry taken out. -/
import Derived.Test.YtebmjefimbcefaaGreatDoorJe
import Derived.Test.YtebmjefimbcefaaGreatDoorJf
import Derived.Test.YtebmjefimbcefaaGreatDoorJd
import Derived.Test.YtebmjefimbcefaaGreatDoorJa
import Derived.Test.YtebmjefimbcefaaGreatDoorRk
import Derived.Deep.CutRange
namespace Go.Proofs.YtebmjefimbcefaaGreatDoor
open Go.RowKit
set_option maxRecDepth 100000 in
set_option maxHeartbeats 1000000 in
theorem refStep_key (x : V) (w : World) (A K : Option Addr) (c d j : Nat) (k : ByteArray) (h : Lies w w.heap.size x A c K d) (h5 : x.kind = 5) (hk : x.keys[j]? = some k) :
    Calls Tryz.prog 51 #[.agg #[.int .i64 x.kind, .int .i64 x.int, .string x.text, .slice A x.items.length c, .slice K x.keys.length d], .int .i64 j] w fun e w' => e = .returned (.agg #[.int .i64 (-1), .string k]) ∧ Below w.heap.size w w' := by
  have hj : j < x.keys.length := (List.getElem?_eq_some_iff.1 hk).1
  have hlen := (lies_keys h).2.1
  have hlen1 := (lies_keys h).1
  unfold maxLen at hlen
  obtain ⟨b, o, rfl, hb, hf⟩ := (lies_keys h).at_ hj
  have hc := (hf j k hk).1
  obtain ⟨W1, hW1⟩ : ∃ W1, W1 = (w.alloc (.cells #[.int .i64 x.kind, .int .i64 x.int, .string x.text, .slice A x.items.length c, .slice (some ⟨b, o, none⟩) x.keys.length d] 27)).alloc (.cells #[.int .i64 0, .string ⟨#[]⟩] 35) := ⟨_, rfl⟩
  have hb1 : Below w.heap.size w W1 := by rw [hW1]; exact below_al (below_al (Below.refl _ w) _) _
  have v0 : W1.cell? ⟨w.heap.size, 0, none⟩ = some (.int .i64 x.kind) := by rw [hW1]; exact ((BlockIs.new w _ _).alloc _).cell 0
  have v4 : W1.cell? ⟨w.heap.size, 4, none⟩ = some (.slice (some ⟨b, o, none⟩) x.keys.length d) := by rw [hW1]; exact ((BlockIs.new w _ _).alloc _).cell 4
  have hs := (BlockIs.newAt (w.alloc (.cells #[.int .i64 x.kind, .int .i64 x.int, .string x.text, .slice A x.items.length c, .slice (some ⟨b, o, none⟩) x.keys.length d] 27)) 35 #[.int .i64 0, .string ⟨#[]⟩] (n := w.heap.size + 1) (by simp))
  rw [← hW1] at hs
  have hc1 : W1.cell? ⟨b, o + j, none⟩ = some (.string k) := (bcell hb1 b (o + j) hb).trans hc
  have hj1 : (0 : Int) ≤ j := by omega
  have hj2 : (j : Int) < x.keys.length := by omega
  have hkb : (x.kind == 5) = true := by simp [h5]
  have HB := Lib.hid hb1
  have HW := Lib.hid hW1
  have HS := Lib.hid hs
  clear hf hc hk h hlen1 hb1 hW1 hs h5 hj
  obtain ⟨s0, s1⟩ : W1.cell? ⟨w.heap.size + 1, 0, none⟩ = some (.int .i64 0) ∧ W1.cell? ⟨w.heap.size + 1, 1, none⟩ = some (.string ⟨#[]⟩) := ⟨HS.out.cell 0, HS.out.cell 1⟩
  have f0 := HS.out.frozen 0
  have f1 := HS.out.frozen 1
  have sl := HS.out.lt
  go_enter Tryz.func51, Tryz.ntmps51
  go_upto_region 1 with (fail)
  rw [← HW.out]
  go_wp2_with fail
  refine bodyPost_ret (v := .agg #[.int .i64 (-1), .string k]) (by simp [results, Tryz.results51, go_sem, s0, s1]) rfl ?_
  exact ⟨rfl, (HB.out.setCell (by simp) _).setCell (by simp) _⟩
/-- An entry laid, as the specification says it. -/
theorem with_in (P : Nat → Prop) (m z : V) (k : ByteArray) (W : World) (A K : Option Addr) (c d : Nat) (A' K' : Option Addr) (c' d' : Nat) (hP : ∀ b, P b → b < W.heap.size) (hm : Ob m) (hn : m.items.length ≤ 1000000) (hl : LiesIn P W m A c K d) (hz : LiesIn P W z A' c' K' d') (hk : k.size ≤ maxLen) :
    Calls Tryz.prog 48 #[.agg #[.int .i64 m.kind, .int .i64 m.int, .string m.text, .slice A m.items.length c, .slice K m.keys.length d], .string k, .agg #[.int .i64 z.kind, .int .i64 z.int, .string z.text, .slice A' z.items.length c', .slice K' z.keys.length d']] W (OutQ P (setK m k z) W) := by
  rw [setK_is hm]
  have hkl := (ob_parts hm).2.1
  obtain ⟨kd, i, t, l, ks⟩ := m
  exact with_walk P kd i t l ks z k W hP A K c d A' K' c' d' hl hz hkl hn hk
theorem here_where {x y : V} {s : Stp} (hok : x.ok = true) (h : itemV x s = some y) : (findV x s).2 = true ∧ x.items[whereV x s]? = some y ∧ x.kind = holderS s ∧ (x.kind = 5 → x.keys[whereV x s]? = some s.2) := by
  obtain ⟨h1, h2⟩ := item_find h
  refine ⟨h1, h2, find_kind (fit_of hok) h1, fun h5 => ?_⟩
  have hk := find_kind (fit_of hok) h1
  obtain ⟨i, k⟩ := s
  have h0 : ¬ 0 ≤ i := fun e => by rw [h5, holderS, if_neg (by simp only; omega)] at hk; omega
  simp [findV, h0] at h1
  rw [show whereV x (i, k) = posK k x.keys by simp [whereV, findV, h0]]
  exact (posK_here k (okk hok).1).1 ((hasK_iff _ _).1 h1)
theorem cons_rem {x y : V} {s : Stp} {r : List Stp} (hok : x.ok = true) (h : itemV x s = some y) (hd : atV y r ≠ none) :
    (removeV x (s :: r)).1 = .mk x.kind 0 ⟨#[]⟩ (cutL (decide (r = [])) (whereV x s) (removeV y r).1 x.items) (keyCut x.kind (decide (r = [])) (whereV x s) s.2 x.keys) := by
  obtain ⟨h1, h2, h3, h4⟩ := here_where hok h
  have h45 : x.kind = 4 ∨ x.kind = 5 := by rw [h3, holderS]; split; exact .inr rfl; exact .inl rfl
  cases r with
  | nil => exact rem_is_last hok h1 h45 _ _
  | cons s' r' => exact rem_is_on hok h1 h45 h2 h4
/-- An entry taken out, as the specification says it. -/
theorem out_key (P : Nat → Prop) (m y : V) (k : ByteArray) (W : World) (A K : Option Addr) (c d : Nat) (g cp : Nat) (hP : ∀ b, P b → b < W.heap.size) (hm : Ob m) (hn : m.nodes ≤ 10000) (hl : LiesIn P W m A c K d) (hk : textB k.data.toList = true) (hks : k.size ≤ maxLen) (hi : itemV m (kst k) = some y)
    (hb : BlockIs W g 35 #[.int .i64 (-1), .string k]) (hcp : 1 ≤ cp) (hcp2 : cp ≤ maxLen) :
    Calls Tryz.prog 54 #[.agg #[.int .i64 m.kind, .int .i64 m.int, .string m.text, .slice A m.items.length c, .slice K m.keys.length d], .slice (some ⟨g, 0, none⟩) 1 cp] W (OutQ P (removeV m [kst k]).1 W) := by
  obtain ⟨h1, h2, h3, h4⟩ := here_where hm.ok hi
  rw [cons_rem hm.ok hi (by simp [atV])]
  exact out_in P m (-1) k [] (removeV y []).1 (whereV m (kst k)) W A K c d (some ⟨g, 0, none⟩) cp hP rfl hl ⟨hcp, hcp2, .inr ⟨g, 0, rfl, hb.lt, hb.cell 0, hb.cell 1, hks, trivial⟩⟩ hm.ok hn (step_kst hk) h3 rfl (List.getElem?_eq_some_iff.1 h2).1 h4
open Go.RowKit
theorem mergeV_obj {a b : V} (h5 : b.kind = 5) : mergeV a b = mergeL (baseV a) b.keys b.items := by
  obtain ⟨k, i, t, l, ks⟩ := b
  simp only [V.kind] at h5
  rw [mergeV, if_pos h5]; rfl
theorem mergeV_not {a b : V} (h5 : ¬ b.kind = 5) : mergeV a b = b := by
  obtain ⟨k, i, t, l, ks⟩ := b
  simp only [V.kind] at h5
  rw [mergeV, if_neg h5]
/-- An item laid into the made object. -/
theorem set_made {N g n : Nat} {t : TypeId} {x2 z : V} {gI c : Nat} {vK zI zK : Value} {D : Nat → Prop} {w5 w6 W7 : World} {y : V}
    (hN : Node w5 N g t [] [] x2 (.slice (some ⟨gI, 0, none⟩) x2.items.length c) vK D) (hy : x2.items[n]? = some y) (h6 : Below w5.heap.size w5 w6) (ht : Tree w6 w5.heap.size z zI zK (fun b => w5.heap.size ≤ b ∧ b < w6.heap.size))
    (hW : W7 = ((((w6.setCell ⟨gI, n * 5, none⟩ (.int .i64 z.kind)).setCell ⟨gI, n * 5 + 1, none⟩ (.int .i64 z.int)).setCell ⟨gI, n * 5 + 2, none⟩ (.string z.text)).setCell ⟨gI, n * 5 + 3, none⟩ zI).setCell ⟨gI, n * 5 + 4, none⟩ zK) :
    Node W7 N g t [] [] (setIt x2 n z) (.slice (some ⟨gI, 0, none⟩) x2.items.length c) vK (fun b => D b ∨ False ∨ (w5.heap.size ≤ b ∧ b < W7.heap.size)) ∧ Fr w5 W7 g D := by
  obtain ⟨gJ, cJ, pre', post', yI, yK, D0, eJ, hpre, hNy, hD0, hDg, hup⟩ := hN.down hy
  have eg : gI = gJ := by
    have := eJ
    simp at this
    exact this.1
  subst eg
  have hbase : N ≤ w5.heap.size := by have := hN.base; have := hN.row.lt; omega
  have hz : ZIn w6 N gI z zI zK D0 (fun b => w5.heap.size ≤ b ∧ b < w6.heap.size) := ⟨Tree.base hbase z ht, fun b hb => ⟨by omega, hb.2⟩, fun b hb => ⟨fun e => by have := (hNy.low b e).2; omega, fun e => by have := hNy.row.lt; omega⟩⟩
  obtain ⟨h7, hF7⟩ := (hNy.on h6).put5 hz (W' := W7) (by rw [hpre]; exact hW)
  have hF : Fr w5 W7 gI D0 := (Fr.of_below h6 gI D0).trans hF7 fun _ h => .inl h
  exact ⟨hup (fun _ => False) W7 z zI zK _ (fun _ h => h.elim) h7 (fun b hb => .inr (.inr hb.1)) hF, hF.up hD0 hDg⟩
set_option maxRecDepth 100000 in
set_option maxHeartbeats 4000000 in
theorem merge_not (a b : V) (w : World) (A K : Option Addr) (c d : Nat) (A' K' : Option Addr) (c' d' : Nat) (hb : Lies w w.heap.size b A' c' K' d') (hbo : b.ok = true) (hn : b.nodes ≤ 5000) (h5 : ¬ b.kind = 5) :
    Calls Tryz.prog 32 #[.agg #[.int .i64 a.kind, .int .i64 a.int, .string a.text, .slice A a.items.length c, .slice K a.keys.length d], .agg #[.int .i64 b.kind, .int .i64 b.int, .string b.text, .slice A' b.items.length c', .slice K' b.keys.length d']] w (MPost (mergeV a b) w) := by
  have HB0 := Lib.hid (MB.start w #[.int .i64 a.kind, .int .i64 a.int, .string a.text, .slice A a.items.length c, .slice K a.keys.length d] #[.int .i64 b.kind, .int .i64 b.int, .string b.text, .slice A' b.items.length c', .slice K' b.keys.length d'])
  have HC := Lib.hid fun W (hW : Below w.heap.size w W) => copied_tree b.nodes b W A' K' c' d' (Nat.le_refl _) hn hbo (lies_on hb hW)
  rw [mergeV_not h5]
  have h5b : (b.kind != 5) = true := by simp [h5]
  clear hb hbo hn h5
  go_enter Tryz.func32, Tryz.ntmps32
  go_wp2_with fail
  refine (HC.out _ HB0.out.old).mono ?_
  rintro e w1 ⟨zI, zK, rfl, ht, h1⟩
  obtain ⟨⟨ZA, zc, rfl⟩, ZK, zd, rfl⟩ := ht.forms
  have hsz := HB0.out.lt
  have HB1 := Lib.hid (HB0.out.on h1)
  have HT := Lib.hid ht
  have HS := Lib.hid hsz
  have HS1 := Lib.hid h1.size
  clear h1 ht hsz HC
  obtain ⟨z0, z1, z2, z3, z4⟩ := five_of (show BlockIs w1 (w.heap.size + 2) 27 #[.int .i64 0, .int .i64 0, .string ⟨#[]⟩, .slice none 0 0, .slice none 0 0] from HB1.out.br)
  have y0 := HB1.out.br.frozen 0
  have y1 := HB1.out.br.frozen 1
  have y2 := HB1.out.br.frozen 2
  have y3 := HB1.out.br.frozen 3
  have y4 := HB1.out.br.frozen 4
  have zl := HB1.out.br.lt
  go_wp2_with fail
  refine bodyPost_ret (v := .agg #[.int .i64 b.kind, .int .i64 b.int, .string b.text, .slice ZA b.items.length zc, .slice ZK b.keys.length zd]) (by simp [results, Tryz.results32, go_sem, z0, z1, z2, z3, z4]) rfl ?_
  exact HB1.out.good HT.out (by have := HS.out; omega) (fun b hb => ⟨by have := hb.1; have := HS.out; omega, hb.2⟩)
open Go.RowKit
/-- How far entries are merged into the made object. -/
structure ML (w : World) (ca cb : Array Value) (R : V) (ks : List ByteArray) (l : List V) (j : Nat) (m : V) (vI vK : Value) (D : Nat → Prop) (W : World) : Prop where
  box : MB w ca cb W
  node : Node W (w.heap.size + 3) (w.heap.size + 3) 27 [] [] m vI vK D
  ob : Ob m
  few : m.nodes + V.nodesL (l.drop j) ≤ 5000
  rest : mergeL m (ks.drop j) (l.drop j) = R
section
variable {w W W' : World} {ca cb : Array Value} {R m : V} {ks : List ByteArray} {l : List V} {j : Nat} {vI vK : Value} {D : Nat → Prop} {k : ByteArray} {c : V}
theorem ML.on (h : ML w ca cb R ks l j m vI vK D W) (hb : Below W.heap.size W W') : ML w ca cb R ks l j m vI vK D W' := ⟨h.box.on hb, h.node.on hb, h.ob, h.few, h.rest⟩
theorem ML.entry (h : ML w ca cb R ks l j m vI vK D W) (hk : ks[j]? = some k) (hc : l[j]? = some c) :
    mergeL (if c.kind = 0 then (removeV m [kst k]).1 else setK m k (mergeV (oldK m k) c)) (ks.drop (j + 1)) (l.drop (j + 1)) = R ∧ m.nodes + (c.nodes + V.nodesL (l.drop (j + 1))) ≤ 5000 := by
  have h1 := h.rest
  have h2 := h.few
  rw [drop_at hk, drop_at hc, mergeL] at h1
  rw [drop_at hc, V.nodesL] at h2
  exact ⟨h1, h2⟩
/-- Behind a removal. -/
theorem ML.removed (h : ML w ca cb R ks l j m vI vK D W) (hk : ks[j]? = some k) (hc : l[j]? = some c) (h0 : c.kind = 0) {e : Ending}
    (hr : RemQ (removeV m [kst k]) (w.heap.size + 3) (w.heap.size + 3) 27 [] [] D W e W') : ∃ vI' vK' D', ML w ca cb R ks l (j + 1) (removeV m [kst k]).1 vI' vK' D' W' := by
  obtain ⟨h1, h2⟩ := h.entry hk hc
  rw [if_pos h0] at h1
  obtain ⟨ho, hn⟩ := remK_ob h.ob k
  obtain ⟨-, hF, ht, hf⟩ := hr
  have hbox := h.box.fr hF (Nat.le_refl _) (fun b hb => (h.node.low b hb).1)
  cases hq : (removeV m [kst k]).2 with
  | true =>
    obtain ⟨vI', vK', D', hN, -⟩ := ht hq
    exact ⟨vI', vK', D', hbox, hN, ho, by omega, h1⟩
  | false =>
    have e : (removeV m [kst k]).1 = m := by
      rw [removeV] at hq ⊢
      split
      · rename_i hh; rw [if_pos hh] at hq; simp at hq
      · rfl
    exact ⟨vI, vK, D, hbox, by rw [e]; exact h.node.on (hf hq), ho, by omega, h1⟩
/-- Behind an item laid. -/
theorem ML.laid (h : ML w ca cb R ks l j m vI vK D W) (hk : ks[j]? = some k) (hc : l[j]? = some c) (h0 : ¬ c.kind = 0) (hkt : textB k.data.toList = true) (hco : c.ok = true)
    {vI' vK' : Value} {D' : Nat → Prop} (hN : Node W' (w.heap.size + 3) (w.heap.size + 3) 27 [] [] (setK m k (mergeV (oldK m k) c)) vI' vK' D') (hF : Fr W W' (w.heap.size + 3) D) :
    ML w ca cb R ks l (j + 1) (setK m k (mergeV (oldK m k) c)) vI' vK' D' W' := by
  obtain ⟨h1, h2⟩ := h.entry hk hc
  rw [if_neg h0] at h1
  obtain ⟨ho, -⟩ := oldK_ok h.ob hkt
  obtain ⟨h3, h4⟩ := mergeV_ok (oldK m k) c ho hco
  obtain ⟨h5, h6⟩ := setK_ob h.ob hkt h3 h4 (V.nodes_pos c)
  exact ⟨h.box.fr hF (Nat.le_refl _) (fun b hb => (h.node.low b hb).1), hN, h5, by omega, h1⟩
end
theorem room_item {m : V} (h : Ob m) {k : ByteArray} (hk : textB k.data.toList = true) : (roomV m (kst k)).items[whereV m (kst k)]? = some (oldK m k) := by
  have h4 := (room_items (fit_of h.ok) (s := kst k) (by rw [h.kind]; rfl) (step_kst hk) (not_over m k) nullV).2.2.2.1
  rw [oldK, List.getD_eq_getElem?_getD, List.getElem?_eq_getElem h4]
  rfl
set_option maxRecDepth 100000 in
set_option maxHeartbeats 8000000 in
theorem merge_step (a b : V) (w : World) (A K : Option Addr) (c d : Nat) (A' K' : Option Addr) (c' d' : Nat) (ha : Lies w w.heap.size a A c K d) (hb : Lies w w.heap.size b A' c' K' d') (hao : a.ok = true) (hbo : b.ok = true) (hn : a.nodes + b.nodes ≤ 5000) (h5 : b.kind = 5)
    (ih : ∀ x y : V, x.ok = true → y ∈ b.items → x.nodes + y.nodes ≤ 5000 → ∀ (W : World) (A K : Option Addr) (c d : Nat) (A' K' : Option Addr) (c' d' : Nat), Lies W W.heap.size x A c K d → Lies W W.heap.size y A' c' K' d' →
      Calls Tryz.prog 32 #[.agg #[.int .i64 x.kind, .int .i64 x.int, .string x.text, .slice A x.items.length c, .slice K x.keys.length d], .agg #[.int .i64 y.kind, .int .i64 y.int, .string y.text, .slice A' y.items.length c', .slice K' y.keys.length d']] W (MPost (mergeV x y) W)) :
    Calls Tryz.prog 32 #[.agg #[.int .i64 a.kind, .int .i64 a.int, .string a.text, .slice A a.items.length c, .slice K a.keys.length d], .agg #[.int .i64 b.kind, .int .i64 b.int, .string b.text, .slice A' b.items.length c', .slice K' b.keys.length d']] w (MPost (mergeV a b) w) := by
  have HB0 := Lib.hid (MB.start w #[.int .i64 a.kind, .int .i64 a.int, .string a.text, .slice A a.items.length c, .slice K a.keys.length d] #[.int .i64 b.kind, .int .i64 b.int, .string b.text, .slice A' b.items.length c', .slice K' b.keys.length d'])
  have HC := Lib.hid fun W (hW : Below w.heap.size w W) => copied_tree a.nodes a W A K c d (Nat.le_refl _) (by omega) hao (lies_on ha hW)
  have HLB := Lib.hid fun W (hW : Below w.heap.size w W) => show Lies W w.heap.size b A' c' K' d' from hb.below hW
  obtain ⟨hr, hkl, hok, hks, -⟩ := ob_parts (m := b) ⟨hbo, h5⟩
  have HKS := Lib.hid (And.intro hks hok)
  have HKL := Lib.hid hkl
  obtain ⟨R, hR⟩ : ∃ R, R = mergeV a b := ⟨_, rfl⟩
  have HR := Lib.hid (show mergeL (baseV a) b.keys b.items = R by rw [hR, mergeV_obj h5])
  have hbn := nodes_items b
  have HFEW := Lib.hid (show (baseV a).nodes + V.nodesL b.items ≤ 5000 by
    have := V.nodes_pos a
    have : emptyO.nodes = 1 := by decide
    unfold baseV
    split <;> omega)
  have HAO := Lib.hid hao
  have HIH := Lib.hid ih
  have HBL := Lib.hid (And.intro hbo h5)
  obtain ⟨n, hnn⟩ : ∃ n, n = b.items.length := ⟨_, rfl⟩
  have HN := Lib.hid hnn
  have hnb : n ≤ 5000 := by have := length_le_nodesL b.items; omega
  rw [← hR, ← hnn]
  rw [← hnn] at HB0
  have h5b : (b.kind != 5) = false := by simp [h5]
  clear ha hb hao hbo hn h5 ih hr hkl hok hks hR hbn hnn
  go_enter Tryz.func32, Tryz.ntmps32
  go_upto_if 18 with (fail)
  obtain ⟨W1, hW1⟩ : ∃ W1, W1 = (((w.alloc (.cells #[.int .i64 a.kind, .int .i64 a.int, .string a.text, .slice A a.items.length c, .slice K a.keys.length d] 27)).alloc (.cells #[.int .i64 b.kind, .int .i64 b.int, .string b.text, .slice A' n c', .slice K' b.keys.length d'] 27)).alloc (.cells #[.int .i64 0, .int .i64 0, .string ⟨#[]⟩, .slice none 0 0, .slice none 0 0] 27)).alloc (.cells #[.int .i64 5, .int .i64 0, .string ⟨#[]⟩, .slice none 0 0, .slice none 0 0] 27) := ⟨_, rfl⟩
  obtain ⟨CA, hCA⟩ : ∃ CA : Array Value, CA = #[.int .i64 a.kind, .int .i64 a.int, .string a.text, .slice A a.items.length c, .slice K a.keys.length d] := ⟨_, rfl⟩
  obtain ⟨CB, hCB⟩ : ∃ CB : Array Value, CB = #[.int .i64 b.kind, .int .i64 b.int, .string b.text, .slice A' n c', .slice K' b.keys.length d'] := ⟨_, rfl⟩
  have HB1 := Lib.hid (show MB w CA CB W1 by rw [hW1, hCA, hCB]; exact HB0.out.on (below_al (Below.refl _ _) _))
  have HM1 := Lib.hid (show BlockIs W1 (w.heap.size + 3) 27 #[.int .i64 5, .int .i64 0, .string ⟨#[]⟩, .slice none 0 0, .slice none 0 0] by rw [hW1]; exact BlockIs.newAt _ _ _ (by simp))
  have HCA := Lib.hid hCA
  have HCB := Lib.hid hCB
  rw [← hW1]
  clear HB0 hW1 hCA hCB
  go_cut [] from 16 to 48 (fun wx => ∃ (vI vK : Value) (D : Nat → Prop), Hid (ML w CA CB R b.keys b.items 0 (baseV a) vI vK D wx))
  case first =>
    obtain ⟨v0, v1, v2, v3, v4⟩ := five_of (show BlockIs W1 w.heap.size 27 #[.int .i64 a.kind, .int .i64 a.int, .string a.text, .slice A a.items.length c, .slice K a.keys.length d] by have := HB1.out.ba; rw [HCA.out] at this; exact this)
    have vl := HB1.out.ba.lt
    by_cases h5 : a.kind = 5
    · have hab : (a.kind == 5) = true := by simp [h5]
      have HBV := Lib.hid (show baseV a = a by unfold baseV; rw [if_pos h5])
      clear h5
      go_wp2_with fail
      refine (HC.out _ HB1.out.old).mono ?_
      rintro e w2 ⟨zI, zK, rfl, ht, h2⟩
      obtain ⟨⟨ZA, zc, rfl⟩, ZK, zd, rfl⟩ := ht.forms
      have hm2 := HM1.out.below h2 HM1.out.lt
      have HN2 := Lib.hid (node_empty w2 (w.heap.size + 3) (w.heap.size + 3) (Nat.le_refl _) hm2)
      have HB2 := Lib.hid (HB1.out.on h2)
      have HZ2 := Lib.hid (show ZIn w2 (w.heap.size + 3) (w.heap.size + 3) a (.slice ZA a.items.length zc) (.slice ZK a.keys.length zd) (fun _ => False) (Fresh W1 w2) from ⟨Tree.base (by have := HM1.out.lt; omega) a ht, fun b hb => ⟨by have := hb.1; have := HM1.out.lt; omega, hb.2⟩, fun b hb => ⟨fun h => h, fun e => by have := hb.1; have := HM1.out.lt; omega⟩⟩)
      obtain ⟨⟨c0, c1, c2, c3, c4⟩, f0, f1, f2, f3, f4, gl⟩ := cells_five HN2.out.row
      simp only [List.length_nil, Nat.zero_add] at c0 c1 c2 c3 c4 f0 f1 f2 f3 f4
      clear h2 ht hm2 v0 v1 v2 v3 v4 vl
      go_wp2_with fail
      go_meet
      obtain ⟨hN, hF⟩ := HN2.out.put5 HZ2.out (W' := _) rfl
      refine ⟨_, _, _, Lib.hid ⟨HB2.out.fr hF (Nat.le_refl _) (fun _ h => h.elim), by rw [HBV.out]; exact hN, base_ob HAO.out, by simpa using HFEW.out, by simpa using HR.out⟩⟩
    · have hab : (a.kind == 5) = false := by simp [h5]
      have HBV := Lib.hid (show baseV a = emptyO by unfold baseV; rw [if_neg h5])
      clear h5
      go_wp2_with fail
      go_meet
      exact ⟨_, _, _, Lib.hid ⟨HB1.out, by rw [HBV.out]; exact node_empty W1 (w.heap.size + 3) (w.heap.size + 3) (Nat.le_refl _) HM1.out, base_ob HAO.out, by simpa using HFEW.out, by simpa using HR.out⟩⟩
  case rest =>
    obtain ⟨vI, vK, D, HI⟩ := hcut
    clear HB1 HM1 HC HFEW HR HAO
    obtain ⟨v0, v1, v2, v3, v4⟩ := five_of (show BlockIs wc (w.heap.size + 1) 27 #[.int .i64 b.kind, .int .i64 b.int, .string b.text, .slice A' n c', .slice K' b.keys.length d'] by have := HI.out.box.bb; rw [HCB.out] at this; exact this)
    go_wp2_with fail
    go_loopw [24] (fun iv wr => ∃ (j : Nat) (m : V) (vI vK : Value) (D : Nat → Prop), iv = .int .i64 j ∧ j ≤ n ∧ Hid (ML w CA CB R b.keys b.items j m vI vK D wr)) (fun iv _ => n - (intOf iv).toNat)
    case atStart => exact ⟨0, _, vI, vK, D, rfl, Nat.zero_le _, HI⟩
    case round =>
      clear v0 v1 v2 v3 v4 HI
      obtain ⟨j, m, vI, vK, D, rfl, hj, HI⟩ := hrel
      by_cases hlt : j < n
      · have hjn : (j : Int) < n := by omega
        have hj0 : (0 : Int) ≤ j := by omega
        have hji : j < b.items.length := by have := HN.out; omega
        have hjk : j < b.keys.length := by have := HKL.out; have := HN.out; omega
        obtain ⟨y, hy⟩ : ∃ y, b.items[j]? = some y := ⟨_, List.getElem?_eq_getElem hji⟩
        obtain ⟨kk, hkk⟩ : ∃ kk, b.keys[j]? = some kk := ⟨_, List.getElem?_eq_getElem hjk⟩
        have hlb := HLB.out wr HI.out.box.old
        obtain ⟨b2, o2, rfl, hb2, hfrom⟩ := (lies_items hlb).at_ hji
        obtain ⟨Ay, cy, Ky, dy, y0, y1, y2, y3, y4, hly⟩ := hfrom.at_ hy
        have hkt : textB kk.data.toList = true := by have := HKS.out.1; rw [List.all_eq_true] at this; exact this kk (List.mem_of_getElem? hkk)
        have hyo : y.ok = true := okItems HBL.out.1 y (List.mem_of_getElem? hy)
        have hksz : kk.size ≤ maxLen := by
          obtain ⟨b3, o3, -, -, hf3⟩ := (lies_keys hlb).at_ hjk
          exact (hf3 j kk hkk).2
        have HE := Lib.hid (And.intro hy (And.intro hkk (And.intro hkt (And.intro hyo hksz))))
        have HLY := Lib.hid fun W (hW : Below w.heap.size w W) => show Lies W W.heap.size y Ay cy Ky dy from hly.keep (fun b o hlt => (bcell hW b o hlt).trans (bcell HI.out.box.old b o hlt).symm) hW.size y
        have HDW := Lib.hid (And.intro HI.out.node.row.lt (fun b hb => (HI.out.node.low b hb).2))
        have hwr := HI.out.box.old.size
        have hwl := HI.out.box.lt
        clear hy hkk hkt hyo hksz hji hjk hlb hfrom hly
        go_upto_region 9 with (fail)
        obtain ⟨Wy, hWy⟩ : ∃ Wy, Wy = wr.alloc (.cells #[.int .i64 y.kind, .int .i64 y.int, .string y.text, .slice Ay y.items.length cy, .slice Ky y.keys.length dy] 27) := ⟨_, rfl⟩
        have hby : Below wr.heap.size wr Wy := by rw [hWy]; exact below_al (Below.refl _ wr) _
        have HXy := Lib.hid (show BlockIs Wy wr.heap.size 27 #[.int .i64 y.kind, .int .i64 y.int, .string y.text, .slice Ay y.items.length cy, .slice Ky y.keys.length dy] by rw [hWy]; exact BlockIs.new wr _ _)
        have HIy := Lib.hid (HI.out.on hby)
        have HBy := Lib.hid hby
        rw [← hWy]
        clear hWy hby y0 y1 y2 y3 y4 HI
        have HSC := Lib.hid (show Calls Tryz.prog 52 #[.agg #[.int .i64 b.kind, .int .i64 b.int, .string b.text, .slice (some ⟨b2, o2, none⟩) n c', .slice K' b.keys.length d'], .int .i64 j] Wy fun e w' => e = .returned (.agg #[.int .i64 (-1), .string kk]) ∧ Below Wy.heap.size Wy w' from by
          have := stepTo_key b Wy (some ⟨b2, o2, none⟩) K' c' d' j kk ((HLB.out Wy HIy.out.box.old).keep (fun _ _ _ => rfl) HIy.out.box.old.size b) HBL.out.2 HE.out.2.1
          rw [← HN.out] at this
          exact this)
        obtain ⟨v0, v1, v2, v3, v4⟩ := five_of (show BlockIs Wy (w.heap.size + 1) 27 #[.int .i64 b.kind, .int .i64 b.int, .string b.text, .slice (some ⟨b2, o2, none⟩) n c', .slice K' b.keys.length d'] by have := HIy.out.box.bb; rw [HCB.out] at this; exact this)
        go_wp2_with fail
        refine HSC.out.mono ?_
        rintro e w2 ⟨rfl, h2⟩
        clear v0 v1 v2 v3 v4 HSC
        go_upto_region 10 with (fail)
        obtain ⟨W3, hW3⟩ : ∃ W3, W3 = w2.alloc (.cells #[.int .i64 (-1), .string kk] 35) := ⟨_, rfl⟩
        have hb3 : Below Wy.heap.size Wy W3 := by rw [hW3]; exact below_al h2 _
        have HX3 := Lib.hid (HXy.out.below hb3 HXy.out.lt)
        have HS3 := Lib.hid (show BlockIs W3 w2.heap.size 35 #[.int .i64 (-1), .string kk] by rw [hW3]; exact BlockIs.new w2 _ _)
        have HI3 := Lib.hid (HIy.out.on hb3)
        have HB3 := Lib.hid (HBy.out.trans (hb3.mono HBy.out.size))
        rw [← hW3]
        clear hW3 hb3 h2 HXy HIy HBy
        obtain ⟨x0, x1, x2, x3, x4⟩ := five_of HX3.out
        have xl := HX3.out.lt
        obtain ⟨t0, t1⟩ : W3.cell? ⟨w2.heap.size, 0, none⟩ = some (.int .i64 (-1)) ∧ W3.cell? ⟨w2.heap.size, 1, none⟩ = some (.string kk) := ⟨HS3.out.cell 0, HS3.out.cell 1⟩
        have tl := HS3.out.lt
        have hmn : m.nodes ≤ 5000 := by have := HI3.out.few; omega
        by_cases h0 : y.kind = 0
        · have h0b : (y.kind == 0) = true := by simp [h0]
          have H0 := Lib.hid h0
          clear h0
          have hb4 := below_al (Below.refl _ W3) (.cells #[.int .i64 (-1), .string kk] 35)
          have hs4 := BlockIs.new W3 35 #[.int .i64 (-1), .string kk]
          have HRM := Lib.hid (show Calls Tryz.prog 53 #[.pointer (some ⟨w.heap.size + 1 + 1 + 1, 0, none⟩), .slice (some ⟨W3.heap.size, 0, none⟩) 1 1] (W3.alloc (.cells #[.int .i64 (-1), .string kk] 35)) (RemQ (removeV m [kst kk]) (w.heap.size + 3) (w.heap.size + 3) 27 [] [] D (W3.alloc (.cells #[.int .i64 (-1), .string kk] 35))) from
            rem_one m (-1) kk [] rfl (w.heap.size + 3) (w.heap.size + 3) _ [] [] vI vK D _ W3.heap.size 0 1 (HI3.out.node.on hb4) HI3.out.ob.ok hmn (Nat.le_refl _) (by simp [maxLen]) hs4.lt (hs4.cell 0) (hs4.cell 1))
          have HI4 := Lib.hid (HI3.out.on hb4)
          clear hb4 hs4
          go_wp2_with fail
          refine HRM.out.mono ?_
          rintro e w5 ⟨rfl, hq1, hq2, hq3⟩
          obtain ⟨vI', vK', D', hml⟩ := HI4.out.removed HE.out.2.1 HE.out.1 H0.out ⟨rfl, hq1, hq2, hq3⟩
          have HI5 := Lib.hid hml
          clear hq1 hq2 hq3 hml x0 x1 x2 x3 x4 xl t0 t1 tl
          go_wp2_with fail
          go_roundw
          case rel => exact ⟨j + 1, _, _, _, _, by go_num, by omega, HI5⟩
          case measure => simp [intOf]; omega
        · have h0b : (y.kind == 0) = false := by simp [h0]
          have H0 := Lib.hid h0
          clear h0
          have hfit := fit_of HI3.out.ob.ok
          have HRM := Lib.hid (show Calls Tryz.prog 42 #[.pointer (some ⟨w.heap.size + 1 + 1 + 1, 0, none⟩), .agg #[.int .i64 (-1), .string kk]] W3 (RoomPost (roomV m (kst kk)) (whereV m (kst kk)) (w.heap.size + 3) (w.heap.size + 3) 27 [] [] D W3) from
            room_any m (-1) kk (w.heap.size + 3) (w.heap.size + 3) _ [] [] vI vK D W3 HI3.out.node hfit (by have := nodes_items m; have := length_le_nodesL m.items; omega) (by rw [HI3.out.ob.kind]; rfl) (not_over m kk) HE.out.2.2.2.2)
          clear hfit
          go_wp2_with fail
          refine HRM.out.mono ?_
          rintro e w5 ⟨gI, c5, vK5, D5, rfl, hN5, hD5, hF5⟩
          obtain ⟨nn, hnn⟩ : ∃ nn, nn = whereV m (kst kk) := ⟨_, rfl⟩
          obtain ⟨old, hold⟩ : ∃ old, old = oldK m kk := ⟨_, rfl⟩
          obtain ⟨x2, hx2⟩ : ∃ x2, x2 = roomV m (kst kk) := ⟨_, rfl⟩
          have hit := room_item HI3.out.ob HE.out.2.2.1
          have hoo := oldK_ok HI3.out.ob HE.out.2.2.1
          have HSET := Lib.hid (show setIt x2 nn (mergeV old y) = setK m kk (mergeV (oldK m kk) y) by rw [hx2, hnn, hold]; rfl)
          rw [← hnn, ← hold, ← hx2] at hit
          rw [← hold] at hoo
          rw [← hx2] at hN5
          rw [← hnn]
          have hyn := V.nodes_mem (List.mem_of_getElem? HE.out.1)
          have hfe := (HI3.out.entry HE.out.2.1 HE.out.1).2
          have HOO := Lib.hid (And.intro hoo.1 (show old.nodes + y.nodes ≤ 5000 by have := hoo.2; omega))
          have HIT := Lib.hid hit
          have HN5 := Lib.hid hN5
          have HF5 := Lib.hid hF5
          have HD5 := Lib.hid hD5
          obtain ⟨gJ, cJ, pre', post', yI, yK, D0, eJ, hpre, hNy, -, -, -⟩ := hN5.down hit
          have eg : gI = gJ := by
            have := eJ
            simp at this
            exact this.1
          subst eg
          obtain ⟨⟨OA, oc, rfl⟩, OK, od, rfl⟩ := hNy.tree.forms
          obtain ⟨OA', oc', OK', od', e1, e2, hlo⟩ := Tree.lies (B := w5.heap.size) old hNy.tree (fun b hb => (hNy.low b hb).2)
          cases e1
          cases e2
          obtain ⟨⟨q0, q1, q2, q3, q4⟩, g0, g1, g2, g3, g4, ql⟩ := cells_five hNy.row
          rw [hpre] at q0 q1 q2 q3 q4 g0 g1 g2 g3 g4
          have HROW := Lib.hid hNy.row
          have HPRE := Lib.hid hpre
          have hx5 : BlockIs w5 wr.heap.size 27 #[.int .i64 y.kind, .int .i64 y.int, .string y.text, .slice Ay y.items.length cy, .slice Ky y.keys.length dy] := HX3.out.to (hF5.block wr.heap.size xl (by have := HDW.out.1; omega) (fun e => by have := HDW.out.2 _ e; omega))
          have hbx5 := HI3.out.box.fr hF5 (Nat.le_refl _) (fun b hb => (HI3.out.node.low b hb).1)
          have HIC := Lib.hid (show Calls Tryz.prog 32 #[.agg #[.int .i64 old.kind, .int .i64 old.int, .string old.text, .slice OA old.items.length oc, .slice OK old.keys.length od], .agg #[.int .i64 y.kind, .int .i64 y.int, .string y.text, .slice Ay y.items.length cy, .slice Ky y.keys.length dy]] w5.drew (MPost (mergeV old y) w5.drew) from
            HIH.out old y HOO.out.1 (List.mem_of_getElem? HE.out.1) HOO.out.2 w5.drew OA OK oc od Ay Ky cy dy (lies_on hlo (Below.refl _ w5).drew) (HLY.out w5.drew (below_on hbx5.old (Below.refl _ w5).drew)))
          obtain ⟨z, hz⟩ : ∃ z, z = mergeV old y := ⟨_, rfl⟩
          rw [← hz] at HIC HSET
          have HZ := Lib.hid hz
          obtain ⟨x0, x1, x2', x3, x4⟩ := five_of hx5
          have xl := hx5.lt
          clear hit hoo hold hx2 hnn hN5 hD5 hF5 eJ hpre hNy hlo hyn hfe hx5 hbx5 hz t0 t1 tl HRM
          go_upto_region 13 with (fail)
          go_region_with (go_at_call 32; refine HIC.out.mono ?_; rintro e w6 ⟨zI, zK, rfl, ht, h6⟩; obtain ⟨⟨ZA, zc, rfl⟩, ZK, zd, rfl⟩ := ht.forms; have hr6 := (show BlockIs w5.drew gI _ _ from HROW.out).below h6 HROW.out.lt; obtain ⟨⟨i0, i1, i2, i3, i4⟩, j0, j1, j2, j3, j4, jl⟩ := cells_five hr6; rw [HPRE.out] at i0 i1 i2 i3 i4 j0 j1 j2 j3 j4; have HM6 := Lib.hid (And.intro ht h6); clear ht h6 hr6)
          all_goals
            have hb6 : Below w5.heap.size w5 w6 := ⟨HM6.out.2.os, HM6.out.2.tape, HM6.out.2.output, HM6.out.2.size, HM6.out.2.block⟩
            obtain ⟨hN7, hF7⟩ := set_made (W7 := ((((w6.setCell ⟨gI, nn * 5, none⟩ (.int .i64 z.kind)).setCell ⟨gI, nn * 5 + 1, none⟩ (.int .i64 z.int)).setCell ⟨gI, nn * 5 + 2, none⟩ (.string z.text)).setCell ⟨gI, nn * 5 + 3, none⟩ (.slice ZA z.items.length zc)).setCell ⟨gI, nn * 5 + 4, none⟩ (.slice ZK z.keys.length zd)) HN5.out HIT.out hb6 HM6.out.1 rfl
            rw [HSET.out] at hN7
            have HI7 := Lib.hid (HI3.out.laid HE.out.2.1 HE.out.1 H0.out HE.out.2.2.1 HE.out.2.2.2.1 hN7 (HF5.out.trans hF7 HD5.out))
            clear hb6 hN7 hF7 HM6 i0 i1 i2 i3 i4 j0 j1 j2 j3 j4 jl
            go_wp2_with fail
            go_roundw
            case rel => exact ⟨j + 1, _, _, _, _, by go_num, by omega, HI7⟩
            case measure => simp [intOf]; omega
      · have hjn : ¬ ((j : Int) < n) := by omega
        have hjn2 : j = n := by omega
        have HRE := Lib.hid (show m = R by
          have h1 := HI.out.rest
          rw [List.drop_eq_nil_of_le (by have := HKL.out; have := HN.out; omega), List.drop_eq_nil_of_le (by have := HN.out; omega), mergeL] at h1
          exact h1)
        clear hjn2
        obtain ⟨⟨p0, p1, p2, p3, p4⟩, g0, g1, g2, g3, g4, pl⟩ := cells_five HI.out.node.row
        simp only [List.length_nil, Nat.zero_add] at p0 p1 p2 p3 p4 g0 g1 g2 g3 g4
        obtain ⟨⟨MA, mc, rfl⟩, MK, md, rfl⟩ := HI.out.node.tree.forms
        obtain ⟨z0, z1, z2, z3, z4⟩ := five_of (show BlockIs wr (w.heap.size + 2) 27 #[.int .i64 0, .int .i64 0, .string ⟨#[]⟩, .slice none 0 0, .slice none 0 0] from HI.out.box.br)
        have f0 := HI.out.box.br.frozen 0
        have f1 := HI.out.box.br.frozen 1
        have f2 := HI.out.box.br.frozen 2
        have f3 := HI.out.box.br.frozen 3
        have f4 := HI.out.box.br.frozen 4
        have zl := HI.out.box.br.lt
        go_wp2_with fail
        refine bodyPost_ret (v := .agg #[.int .i64 m.kind, .int .i64 m.int, .string m.text, .slice MA m.items.length mc, .slice MK m.keys.length md]) (by simp [results, Tryz.results32, go_sem, z0, z1, z2, z3, z4]) rfl ?_
        rw [← HRE.out]
        exact HI.out.box.good HI.out.node.tree (by omega) HI.out.node.low
theorem merge_any : ∀ (N : Nat) (b : V), b.nodes ≤ N → ∀ (a : V), a.ok = true → b.ok = true → a.nodes + b.nodes ≤ 5000 → ∀ (w : World) (A K : Option Addr) (c d : Nat) (A' K' : Option Addr) (c' d' : Nat), Lies w w.heap.size a A c K d → Lies w w.heap.size b A' c' K' d' →
    Calls Tryz.prog 32 #[.agg #[.int .i64 a.kind, .int .i64 a.int, .string a.text, .slice A a.items.length c, .slice K a.keys.length d], .agg #[.int .i64 b.kind, .int .i64 b.int, .string b.text, .slice A' b.items.length c', .slice K' b.keys.length d']] w (MPost (mergeV a b) w)
  | 0, b, hN, _, _, _, _, _, _, _, _, _, _, _, _, _, _, _ => by have := V.nodes_pos b; omega
  | N + 1, b, hN, a, hao, hbo, hn, w, A, K, c, d, A', K', c', d', ha, hb => by
    by_cases h5 : b.kind = 5
    · exact merge_step a b w A K c d A' K' c' d' ha hb hao hbo hn h5 fun x y hx hy hxy W A K c d A' K' c' d' h1 h2 => merge_any N y (by have := V.nodes_mem hy; have := nodes_items b; omega) x hx (okItems hbo y hy) hxy W A K c d A' K' c' d' h1 h2
    · exact merge_not a b w A K c d A' K' c' d' hb hbo (by omega) h5
open Go.RowKit
/-- The blocks that what was merged hangs on: the arguments', and those behind the boxes. -/
def MP (w : World) (P : Nat → Prop) (W : World) (b : Nat) : Prop := P b ∨ (w.heap.size + 3 ≤ b ∧ b < W.heap.size)
/-- How far one value is merged into another. -/
structure ME (w : World) (P : Nat → Prop) (cb : Array Value) (R : V) (ks : List ByteArray) (l : List V) (j : Nat) (m : V) (A : Option Addr) (c : Nat) (K : Option Addr) (d : Nat) (W : World) : Prop where
  box : MB w #[.int .i64 m.kind, .int .i64 m.int, .string m.text, .slice A m.items.length c, .slice K m.keys.length d] cb W
  lies : LiesIn (MP w P W) W m A c K d
  ob : Ob m
  few : m.nodes + V.nodesL (l.drop j) ≤ 5000
  rest : mergeL m (ks.drop j) (l.drop j) = R
section
variable {w W W' : World} {P : Nat → Prop} {ca cb : Array Value} {R m q : V} {ks : List ByteArray} {l : List V} {j : Nat} {A K A' K' : Option Addr} {c d c' d' : Nat} {k : ByteArray} {y : V} {a0 a1 a2 a3 a4 u0 u1 u2 u3 u4 : Value}
theorem MP.lt (hP : ∀ b, P b → b < w.heap.size) (h : MB w ca cb W) {b : Nat} (hb : MP w P W b) : b < W.heap.size := by
  have := h.lt
  rcases hb with hb | hb
  · have := hP b hb; omega
  · exact hb.2
theorem inn_on (hP : ∀ b, P b → b < w.heap.size) (h : MB w ca cb W) (hb : Below W.heap.size W W') (hl : LiesIn (MP w P W) W q A c K d) : LiesIn (MP w P W') W' q A c K d :=
  LiesIn.keep (fun b o hx => bcell hb b o (MP.lt hP h hx)) (fun b hx => hx.imp id fun hx => ⟨hx.1, by have := hb.size; omega⟩) q hl
theorem inn_out (h : MB w ca cb W) (hb : Below W.heap.size W W') (hl : LiesIn (fun b => MP w P W b ∨ Fresh W W' b) W' q A c K d) : LiesIn (MP w P W') W' q A c K d := by
  refine LiesIn.keep (fun _ _ _ => rfl) (fun b hx => ?_) q hl
  have := h.lt
  have := hb.size
  rcases hx with (hx | hx) | hx
  · exact .inl hx
  · exact .inr ⟨hx.1, by omega⟩
  · exact .inr ⟨by have := hx.1; omega, hx.2⟩
theorem MB.seta (h : MB w #[a0, a1, a2, a3, a4] cb W) : MB w #[u0, u1, u2, u3, u4] cb (put5 W w.heap.size 0 u0 u1 u2 u3 u4) := by
  have hh := fun g (hg : g ≠ w.heap.size) => put5_heap W w.heap.size 0 u0 u1 u2 u3 u4 hg
  refine ⟨((((h.old.setCell (by simp) _).setCell (by simp) _).setCell (by simp) _).setCell (by simp) _).setCell (by simp) _, ?_, h.bb.to (hh _ (by omega)), h.br.to (hh _ (by omega))⟩
  have := ((((h.ba.set_ 0 u0).set_ 1 u1).set_ 2 u2).set_ 3 u3).set_ 4 u4
  simpa [put5] using this
theorem inn_set (hP : ∀ b, P b → b < w.heap.size) (hl : LiesIn (MP w P W) W q A c K d) {g : Nat} (hg : w.heap.size ≤ g ∧ g < w.heap.size + 3) : LiesIn (MP w P (put5 W g 0 u0 u1 u2 u3 u4)) (put5 W g 0 u0 u1 u2 u3 u4) q A c K d := by
  refine LiesIn.keep (fun b o hb => World.cell?_of_block (put5_heap W g 0 u0 u1 u2 u3 u4 ?_)) (fun b hb => hb.imp id fun hb => ⟨hb.1, by rw [put5_size]; exact hb.2⟩) _ hl
  rcases (show P b ∨ _ from hb) with hb | hb
  · have := hP b hb; show b ≠ g; omega
  · have := hb.1; show b ≠ g; omega
theorem ME.on (h : ME w P cb R ks l j m A c K d W) (hP : ∀ b, P b → b < w.heap.size) (hb : Below W.heap.size W W') : ME w P cb R ks l j m A c K d W' := ⟨h.box.on hb, inn_on hP h.box hb h.lies, h.ob, h.few, h.rest⟩
theorem ME.entry (h : ME w P cb R ks l j m A c K d W) (hk : ks[j]? = some k) (hc : l[j]? = some y) :
    mergeL (if y.kind = 0 then (removeV m [kst k]).1 else setK m k (mergeV (oldK m k) y)) (ks.drop (j + 1)) (l.drop (j + 1)) = R ∧ m.nodes + (y.nodes + V.nodesL (l.drop (j + 1))) ≤ 5000 := by
  have h1 := h.rest
  have h2 := h.few
  rw [drop_at hk, drop_at hc, mergeL] at h1
  rw [drop_at hc, V.nodesL] at h2
  exact ⟨h1, h2⟩
theorem ME.skip (h : ME w P cb R ks l j m A c K d W) (hk : ks[j]? = some k) (hc : l[j]? = some y) (h0 : y.kind = 0) (hi : itemV m (kst k) = none) : ME w P cb R ks l (j + 1) m A c K d W := by
  obtain ⟨h1, h2⟩ := h.entry hk hc
  rw [if_pos h0, rem_gone (item_none h.ob.ok hi)] at h1
  exact ⟨h.box, h.lies, h.ob, by omega, h1⟩
theorem ME.gone (h : ME w P cb R ks l j m A c K d W) (hP : ∀ b, P b → b < w.heap.size) (hk : ks[j]? = some k) (hc : l[j]? = some y) (h0 : y.kind = 0) (hq : q = (removeV m [kst k]).1) (hb : Below W.heap.size W W') (hl : LiesIn (fun b => MP w P W b ∨ Fresh W W' b) W' q A' c' K' d') :
    ME w P cb R ks l (j + 1) q A' c' K' d' (put5 W' w.heap.size 0 (.int .i64 q.kind) (.int .i64 q.int) (.string q.text) (.slice A' q.items.length c') (.slice K' q.keys.length d')) := by
  subst hq
  obtain ⟨h1, h2⟩ := h.entry hk hc
  rw [if_pos h0] at h1
  obtain ⟨ho, hn⟩ := remK_ob h.ob k
  exact ⟨(h.box.on hb).seta, inn_set hP (inn_out h.box hb hl) (by omega), ho, by omega, h1⟩
theorem ME.laid (h : ME w P cb R ks l j m A c K d W) (hP : ∀ b, P b → b < w.heap.size) (hk : ks[j]? = some k) (hc : l[j]? = some y) (h0 : ¬ y.kind = 0) (hkt : textB k.data.toList = true) (hyo : y.ok = true) (hq : q = setK m k (mergeV (oldK m k) y)) (hb : Below W.heap.size W W') (hl : LiesIn (MP w P W') W' q A' c' K' d') :
    ME w P cb R ks l (j + 1) q A' c' K' d' (put5 W' w.heap.size 0 (.int .i64 q.kind) (.int .i64 q.int) (.string q.text) (.slice A' q.items.length c') (.slice K' q.keys.length d')) := by
  subst hq
  obtain ⟨h1, h2⟩ := h.entry hk hc
  rw [if_neg h0] at h1
  obtain ⟨ho, -⟩ := oldK_ok h.ob hkt
  obtain ⟨h3, h4⟩ := mergeV_ok (oldK m k) y ho hyo
  obtain ⟨h5, h6⟩ := setK_ob h.ob hkt h3 h4 (V.nodes_pos y)
  exact ⟨(h.box.on hb).seta, inn_set hP hl (by omega), h5, by omega, h1⟩
/-- What was merged, answered. -/
theorem ME.done (h : ME w P cb R ks l j m A c K d W) (hP : ∀ b, P b → b < w.heap.size) : OutQ P m w (.returned (aggOf m A c K d)) (put5 W (w.heap.size + 2) 0 u0 u1 u2 u3 u4) := by
  have := h.box.lt
  refine ⟨_, _, _, _, rfl, LiesIn.keep (fun _ _ _ => rfl) (fun b hb => hb.imp id fun hb => ⟨by have := hb.1; omega, hb.2⟩) m (inn_set hP h.lies (by omega)), h.box.ends⟩
end
/-- The item at a key, or null, and whether there is one. -/
theorem item_old (P : Nat → Prop) (m : V) (k : ByteArray) (w : World) (A K : Option Addr) (c d : Nat) (hP : ∀ b, P b → b < w.heap.size) (h : LiesIn P w m A c K d) (hm : Ob m) (hk : textB k.data.toList = true) :
    Calls Tryz.prog 47 #[.agg #[.int .i64 m.kind, .int .i64 m.int, .string m.text, .slice A m.items.length c, .slice K m.keys.length d], .agg #[.int .i64 (-1), .string k]] w fun e w' =>
      ∃ A c K d, e = .returned (.tuple #[.agg #[.int .i64 (oldK m k).kind, .int .i64 (oldK m k).int, .string (oldK m k).text, .slice A (oldK m k).items.length c, .slice K (oldK m k).keys.length d], .bool (itemV m (kst k)).isSome]) ∧ LiesIn P w' (oldK m k) A c K d ∧ Below w.heap.size w w' := by
  rw [oldK_is hm hk]
  refine (item_in P m (kst k) w A K c d hP h hm.ok).mono ?_
  rintro e w' ⟨hb, he⟩
  cases hi : itemV m (kst k) with
  | none =>
    rw [hi] at he
    exact ⟨none, 0, none, 0, he, lies_leaf _ _ 0 0 _ (by decide), hb⟩
  | some y =>
    rw [hi] at he
    obtain ⟨A, c, K, d, he, hl⟩ := he
    exact ⟨A, c, K, d, he, hl, hb⟩
end Go.Proofs.YtebmjefimbcefaaGreatDoor
