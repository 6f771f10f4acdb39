/- What was put where nothing was, taken out again: plain. -/
import Derived.Test.YtchadlbhdcpojaaDoorTm
import Derived.Test.YtchadlbhdcpojaaDoorTd
import Derived.Test.YtchadlbhdcpojaaDoorJa
namespace Go.Proofs.YtchadlbhdcpojaaDoor
open Go.RowKit
theorem item_find {x y : V} {s : Stp} (h : itemV x s = some y) : (findV x s).2 = true ∧ x.items[whereV x s]? = some y := by
  obtain ⟨i, k⟩ := s
  unfold itemV at h
  by_cases h0 : 0 ≤ i
  · rw [if_pos h0] at h
    split at h
    · rename_i h4
      have hlt := (List.getElem?_eq_some_iff.1 h).1
      refine ⟨by simp [findV, h0, h4]; simp only at hlt; omega, ?_⟩
      simp [whereV, findV, h0]
      exact h
    · cases h
  · rw [if_neg h0] at h
    split at h
    · rename_i hh
      refine ⟨by simp [findV, h0]; exact hh, ?_⟩
      simp [whereV, findV, h0]
      exact h
    · cases h
theorem item_none {x : V} {s : Stp} (hok : x.ok = true) (h : itemV x s = none) : (findV x s).2 = false := by
  cases h2 : (findV x s).2 with
  | false => rfl
  | true =>
    obtain ⟨_, _, _, _, h3⟩ := find_item hok h2
    rw [h] at h3
    cases h3
theorem find_set (x y : V) (n : Nat) (s : Stp) : findV (setIt x n y) s = findV x s := by
  simp [findV, setIt_kind, setIt_items, setIt_keys]
  rfl
theorem kind_of {x : V} {s : Stp} (h : ¬ x.kind = 0) : kindV x s = x := by unfold kindV; rw [if_neg h]
theorem put_last {x z : V} {s : Stp} (hok : x.ok = true) (h45 : x.kind = 4 ∨ x.kind = 5) (hn : itemV x s = none) (hp : (putV x [s] z).2 = 0) : removeV (putV x [s] z).1 [s] = (x, true) := by
  have h0 : ¬ x.kind = 0 := by omega
  have hf := fit_of hok
  have hfn := item_none hok hn
  rw [putV, kind_of h0] at hp ⊢
  split at hp
  · simp at hp
  · rename_i hk
    split at hp
    · simp at hp
    · rename_i hl
      rw [if_neg hk, if_neg hl]
      have hk' : x.kind = holderS s := by simpa using hk
      have hle := where_le hf hk' hl
      have hr : roomV x s = .mk x.kind x.int x.text (x.items.take (whereV x s) ++ nullV :: x.items.drop (whereV x s)) (if x.kind = 5 then x.keys.take (whereV x s) ++ s.2 :: x.keys.drop (whereV x s) else x.keys) := by rw [roomV, if_neg (by simp [hfn])]
      have hl1 : (x.items.take (whereV x s)).length = whereV x s := by rw [List.length_take]; omega
      have hX : setIt (roomV x s) (whereV x s) (putV ((roomV x s).items.getD (whereV x s) nullV) [] z).1 = .mk x.kind x.int x.text (x.items.take (whereV x s) ++ z :: x.items.drop (whereV x s)) (if x.kind = 5 then x.keys.take (whereV x s) ++ s.2 :: x.keys.drop (whereV x s) else x.keys) := by
        rw [hr]
        simp only [setIt, mkK, mkN, mkT, mkI, mkY, putV]
        rw [List.set_append]
        simp [hl1]
      show removeV (setIt (roomV x s) (whereV x s) (putV ((roomV x s).items.getD (whereV x s) nullV) [] z).1) [s] = _
      rw [hX]
      have hw : findV (.mk x.kind x.int x.text (x.items.take (whereV x s) ++ z :: x.items.drop (whereV x s)) (if x.kind = 5 then x.keys.take (whereV x s) ++ s.2 :: x.keys.drop (whereV x s) else x.keys)) s = (((whereV x s : Nat) : Int), true) := by
        obtain ⟨i, k⟩ := s
        by_cases hi : 0 ≤ i
        · have h4 : x.kind = 4 := by rw [hk', holderS, if_neg (by simp only; omega)]
          have hwi : whereV x (i, k) = i.toNat := by simp [whereV, findV, hi]
          unfold findV
          rw [if_pos hi]
          simp only [mkK, mkI, h4, List.length_append, List.length_cons, List.length_take, List.length_drop, hwi] at *
          simp
          omega
        · have h5 : x.kind = 5 := by rw [hk', holderS, if_pos (by simp only; omega)]
          have hwk : whereV x (i, k) = posK k x.keys := by simp [whereV, findV, hi]
          have hnm : ¬ k ∈ x.keys := fun e => by simp [findV, hi, (hasK_iff _ _).2 e] at hfn
          have hle2 := posK_le k x.keys
          unfold findV
          rw [if_neg hi]
          simp only [mkY, if_pos h5, hwk]
          have hat : (x.keys.take (posK k x.keys) ++ k :: x.keys.drop (posK k x.keys))[posK k x.keys]? = some k := by
            rw [List.getElem?_append_right (by rw [List.length_take]; omega), List.length_take, Nat.min_eq_left hle2, Nat.sub_self]
            rfl
          rw [posK_at (rising_ins hf.rise hnm) hat, (hasK_iff _ _).2 (List.mem_of_getElem? hat)]
      rw [removeV, hw, if_pos rfl, if_pos rfl, delV]
      have hw2 : whereV (.mk x.kind x.int x.text (x.items.take (whereV x s) ++ z :: x.items.drop (whereV x s)) (if x.kind = 5 then x.keys.take (whereV x s) ++ s.2 :: x.keys.drop (whereV x s) else x.keys)) s = whereV x s := by
        show (findV _ s).1.toNat = whereV x s
        rw [hw]; rfl
      rw [hw2]
      simp only [mkK, mkN, mkT, mkI, mkY]
      rw [cut_ins hle]
      have hkeys : (if x.kind = 5 then (if x.kind = 5 then x.keys.take (whereV x s) ++ s.2 :: x.keys.drop (whereV x s) else x.keys).take (whereV x s) ++ (if x.kind = 5 then x.keys.take (whereV x s) ++ s.2 :: x.keys.drop (whereV x s) else x.keys).drop (whereV x s + 1) else (if x.kind = 5 then x.keys.take (whereV x s) ++ s.2 :: x.keys.drop (whereV x s) else x.keys)) = x.keys := by
        by_cases h5 : x.kind = 5
        · simp only [if_pos h5]
          exact cut_ins (by rw [hf.five h5]; exact hle) _
        · simp only [if_neg h5]
      have hend : ∀ ks, ks = x.keys → (V.mk x.kind x.int x.text x.items ks, true) = (x, true) := fun ks e => by rw [e, mk_eta]
      exact hend _ hkeys
theorem put_remove (s : Stp) (z : V) : ∀ (q : List Stp) (x y : V), x.ok = true → atV x q = some y → (y.kind = 4 ∨ y.kind = 5) → itemV y s = none → (putV x (q ++ [s]) z).2 = 0 → removeV (putV x (q ++ [s]) z).1 (q ++ [s]) = (x, true)
  | [], x, y, hok, hy, h45, hn, h0 => by
    obtain rfl : x = y := Option.some.inj hy
    exact put_last hok h45 hn h0
  | a :: q, x, y, hok, hy, h45, hn, h0 => by
    rw [atV] at hy
    cases hi : itemV x a with
    | none => rw [hi] at hy; cases hy
    | some y1 =>
      rw [hi] at hy
      obtain ⟨hft, hiw⟩ := item_find hi
      have hf := fit_of hok
      have hk : x.kind = holderS a := by
        obtain ⟨i, k⟩ := a
        by_cases hi0 : 0 ≤ i
        · simp [findV, hi0] at hft
          rw [holderS, if_neg (by simp only; omega)]; exact hft.1
        · rw [holderS, if_pos (by simp only; omega)]
          simp [findV, hi0] at hft
          have hm := (hasK_iff _ _).1 hft
          by_cases h5 : x.kind = 5
          · exact h5
          · rw [hf.none h5] at hm; cases hm
      have hk0 : ¬ x.kind = 0 := by rw [hk, holderS]; split <;> omega
      have hroom : roomV x a = x := by rw [roomV, if_pos hft]
      have hget : x.items.getD (whereV x a) nullV = y1 := by rw [List.getD_eq_getElem?_getD, hiw]; rfl
      have hlt : whereV x a < x.items.length := (List.getElem?_eq_some_iff.1 hiw).1
      rw [List.cons_append] at h0 ⊢
      rw [putV, kind_of hk0] at h0 ⊢
      split at h0
      · simp at h0
      · rename_i hk2
        split at h0
        · simp at h0
        · rename_i hl
          rw [if_neg hk2, if_neg hl]
          rw [hroom, hget] at h0 ⊢
          have ih := put_remove s z q y1 y (okItems hok y1 (item_mem hi)) hy h45 hn h0
          show removeV (setIt x (whereV x a) (putV y1 (q ++ [s]) z).1) (a :: (q ++ [s])) = _
          have hws : whereV (setIt x (whereV x a) (putV y1 (q ++ [s]) z).1) a = whereV x a := by unfold whereV; rw [find_set]
          rw [removeV, find_set, if_pos hft, if_neg (by simp), hws]
          have hg2 : (setIt x (whereV x a) (putV y1 (q ++ [s]) z).1).items.getD (whereV x a) nullV = (putV y1 (q ++ [s]) z).1 := by
            rw [setIt_items, List.getD_eq_getElem?_getD, List.getElem?_set_self hlt]; rfl
          rw [hg2, ih]
          have : setIt (setIt x (whereV x a) (putV y1 (q ++ [s]) z).1) (whereV x a) y1 = x := by
            unfold setIt
            simp only [mkK, mkN, mkT, mkI, mkY]
            rw [List.set_set]
            have e : x.items.set (whereV x a) y1 = x.items := by
              rw [List.getElem?_eq_some_iff] at hiw
              obtain ⟨h1, h2⟩ := hiw
              rw [← h2]
              exact List.set_getElem_self h1
            rw [e, mk_eta]
          rw [this]
open Go.RowKit
theorem holder_any (i : Int) (t : ByteArray) (hs : stepB (i, t) = true) (w : World) : Calls Tryd.prog 33 #[.agg #[.int .i64 i, .string t]] w fun e w' => e = .returned (.int .i64 (holderS (i, t))) ∧ Below w.heap.size w w' := by
  by_cases h0 : 0 ≤ i
  · rw [holderS, if_neg (by simp only; omega)]; exact holder_index i h0 t w
  · have h1 : i = -1 := by
      unfold stepB at hs
      by_cases e : i = -1
      · exact e
      · rw [if_neg (by simpa using e)] at hs
        simp at hs
        omega
    subst h1
    exact holder_key t w
/-- A value that is to be laid, apart from where it is laid. -/
structure ZIn (W : World) (N g : Nat) (z : V) (zI zK : Value) (D Dz : Nat → Prop) : Prop where
  tree : Tree W N z zI zK Dz
  low : ∀ b, Dz b → N ≤ b ∧ b < W.heap.size
  far : ∀ b, Dz b → ¬ D b ∧ b ≠ g
/-- What put leaves. -/
def PutP (q : V × Int) (N g : Nat) (t : TypeId) (pre post : List Value) (D Dz : Nat → Prop) (W : World) (e : Ending) (W' : World) : Prop :=
  e = .returned (.int .i64 q.2) ∧ Fr W W' g D ∧ (q.2 = 0 → ∃ vI' vK' D', Node W' N g t pre post q.1 vI' vK' D' ∧ ∀ b, D' b → D b ∨ Dz b ∨ W.heap.size ≤ b)
section
variable {W W' W1 W2 : World} {N g n m c gI cp : Nat} {t : TypeId} {pre post : List Value} {x y z : V} {vI vK zI zK : Value} {D D1 Dz : Nat → Prop} {q : V × Int} {e : Ending}
theorem ZIn.fr (h : ZIn W N g z zI zK D Dz) (hF : Fr W W' g D) (hD : ∀ b, D1 b → D b ∨ W.heap.size ≤ b) : ZIn W' N g z zI zK D1 Dz :=
  ⟨h.tree.keep z (fun b hb => hF.block b (h.low b hb).2 (h.far b hb).2 (h.far b hb).1) (fun _ h => h), fun b hb => ⟨(h.low b hb).1, by have := (h.low b hb).2; have := hF.size; omega⟩, fun b hb => ⟨fun e => by
    rcases hD b e with e | e
    · exact (h.far b hb).1 e
    · have := (h.low b hb).2; omega, (h.far b hb).2⟩⟩
theorem ZIn.on (h : ZIn W N g z zI zK D Dz) (hb : Below W.heap.size W W') : ZIn W' N g z zI zK D Dz := h.fr (Fr.of_below hb g D) (fun _ h => .inl h)
theorem PutP.trans (h : PutP q N g t pre post D1 Dz W1 e W') (hF : Fr W W1 g D) (hD : ∀ b, D1 b → D b ∨ W.heap.size ≤ b) : PutP q N g t pre post D Dz W e W' := by
  obtain ⟨h1, h2, h3⟩ := h
  refine ⟨h1, hF.trans h2 hD, fun h0 => ?_⟩
  obtain ⟨vI', vK', D', hN, hD'⟩ := h3 h0
  refine ⟨vI', vK', D', hN, fun b hb => ?_⟩
  rcases hD' b hb with h | h | h
  · rcases hD b h with h | h
    · exact .inl h
    · exact .inr (.inr h)
  · exact .inr (.inl h)
  · exact .inr (.inr (Nat.le_trans hF.size h))
theorem PutP.bad {r : Int} (hq : q.2 = r) (h0 : ¬ r = 0) (hF : Fr W W' g D) : PutP q N g t pre post D Dz W (.returned (.int .i64 r)) W' :=
  ⟨by rw [hq], hF, fun h => absurd (hq.symm.trans h) h0⟩
theorem Fr.set (W : World) (g o : Nat) (u : Value) (D : Nat → Prop) : Fr W (W.setCell ⟨g, o, none⟩ u) g D := ⟨rfl, rfl, rfl, by simp, fun b _ hb _ => Below.heap_setCell _ _ _ _ hb⟩
/-- The five cells of a value are laid. -/
theorem Node.put5 (h : Node W N g t pre post x vI vK D) (hz : ZIn W N g z zI zK D Dz) (hW : W' = ((((W.setCell ⟨g, pre.length, none⟩ (.int .i64 z.kind)).setCell ⟨g, pre.length + 1, none⟩ (.int .i64 z.int)).setCell ⟨g, pre.length + 2, none⟩ (.string z.text)).setCell ⟨g, pre.length + 3, none⟩ zI).setCell ⟨g, pre.length + 4, none⟩ zK) :
    Node W' N g t pre post z zI zK Dz ∧ Fr W W' g D := by
  have h0 := block_set h.row 0 (by simp [five]) (.int .i64 z.kind)
  rw [Nat.add_zero] at h0
  have h1 := block_set h0 1 (by simp [five]) (.int .i64 z.int)
  have h2 := block_set h1 2 (by simp [five]) (.string z.text)
  have h3 := block_set h2 3 (by simp [five]) zI
  have h4 := block_set h3 4 (by simp [five]) zK
  have hF : Fr W W' g D := by
    rw [hW]
    exact ((((Fr.set W g _ _ D).trans (Fr.set _ g _ _ D) fun _ h => .inl h).trans (Fr.set _ g _ _ D) fun _ h => .inl h).trans (Fr.set _ g _ _ D) fun _ h => .inl h).trans (Fr.set _ g _ _ D) fun _ h => .inl h
  rw [← hW] at h4
  have hz' := hz.fr (D1 := D) hF (fun _ h => .inl h)
  exact ⟨⟨by simpa [five] using h4, hz'.tree, fun e => (hz.far g e).2 rfl, hz'.low, h.base⟩, hF⟩
theorem put_inner {r : List Stp} {A : Option Addr} (hN : Node W N g t pre post x (.slice (some ⟨gI, 0, none⟩) m c) vK D) (hy : x.items[n]? = some y) (hz : ZIn W N g z zI zK D Dz) (hp : PLies W N A cp r)
    (ih : ∀ (W : World) (g : Nat) (t : TypeId) (pre post : List Value) (vI vK : Value) (D : Nat → Prop) (A : Option Addr) (cp : Nat), Node W N g t pre post y vI vK D → ZIn W N g z zI zK D Dz → PLies W N A cp r →
      Calls Tryd.prog 21 #[.pointer (some ⟨g, pre.length, none⟩), .slice A r.length cp, .agg #[.int .i64 z.kind, .int .i64 z.int, .string z.text, zI, zK]] W (PutP q N g t pre post D Dz W)) :
    Calls Tryd.prog 21 #[.pointer (some ⟨gI, n * 5, none⟩), .slice A r.length cp, .agg #[.int .i64 z.kind, .int .i64 z.int, .string z.text, zI, zK]] W (PutP (setIt x n q.1, q.2) N g t pre post D Dz W) := by
  obtain ⟨gJ, cJ, pre', post', yI, yK, D0, eJ, hpre, hNy, hD0, hDg, hup⟩ := hN.down hy
  have eg : gI = gJ := by
    have := eJ
    simp at this
    exact this.1
  subst eg
  rw [← hpre]
  refine (ih W gI _ pre' post' yI yK D0 A cp hNy ⟨hz.tree, hz.low, fun b hb => ⟨fun h => (hz.far b hb).1 (hD0 b h), fun e => (hz.far b hb).1 (by rw [e]; exact hDg)⟩⟩ hp).mono ?_
  rintro e w' ⟨h1, h2, h3⟩
  refine ⟨h1, h2.up hD0 hDg, fun h0 => ?_⟩
  obtain ⟨vI', vK', D', hN', hD'⟩ := h3 h0
  refine ⟨_, _, _, hup Dz w' q.1 vI' vK' D' (fun b hb => ⟨(hz.far b hb).1, (hz.far b hb).2, hz.low b hb⟩) hN' hD' h2, fun b hb => ?_⟩
  rcases hb with h | h | h
  · exact .inl h
  · exact .inr (.inl h)
  · exact .inr (.inr h.1)
end
set_option maxRecDepth 100000 in
set_option maxHeartbeats 8000000 in
theorem put_end (x z : V) (N g : Nat) (t : TypeId) (pre post : List Value) (vI vK zI zK : Value) (D Dz : Nat → Prop) (W : World) (A : Option Addr) (cp : Nat) (h : Node W N g t pre post x vI vK D) (hz : ZIn W N g z zI zK D Dz) :
    Calls Tryd.prog 21 #[.pointer (some ⟨g, pre.length, none⟩), .slice A 0 cp, .agg #[.int .i64 z.kind, .int .i64 z.int, .string z.text, zI, zK]] W (PutP (z, 0) N g t pre post D Dz W) := by
  obtain ⟨⟨ZA, zc, rfl⟩, ZK, zd, rfl⟩ := hz.tree.forms
  have HP := Lib.hid (fun W' (e : W' = ((((W.setCell ⟨g, pre.length, none⟩ (.int .i64 z.kind)).setCell ⟨g, pre.length + 1, none⟩ (.int .i64 z.int)).setCell ⟨g, pre.length + 2, none⟩ (.string z.text)).setCell ⟨g, pre.length + 3, none⟩ (.slice ZA z.items.length zc)).setCell ⟨g, pre.length + 4, none⟩ (.slice ZK z.keys.length zd)) => h.put5 hz e)
  obtain ⟨c0, c1, c2, c3, c4⟩ := h.cells
  obtain ⟨f0, f1, f2, f3, f4, gl⟩ := h.frozen
  clear h hz
  go_enter Tryd.func21, Tryd.ntmps21
  go_wp2_with fail
  refine bodyPost_ret (v := .int .i64 0) (by simp [results, Tryd.results21, go_sem]) rfl ?_
  obtain ⟨W', hW'⟩ : ∃ W', W' = ((((W.setCell ⟨g, pre.length, none⟩ (.int .i64 z.kind)).setCell ⟨g, pre.length + 1, none⟩ (.int .i64 z.int)).setCell ⟨g, pre.length + 2, none⟩ (.string z.text)).setCell ⟨g, pre.length + 3, none⟩ (.slice ZA z.items.length zc)).setCell ⟨g, pre.length + 4, none⟩ (.slice ZK z.keys.length zd) := ⟨_, rfl⟩
  rw [← hW']
  obtain ⟨hN, hF⟩ := HP.out W' hW'
  have hb := below_al (Below.refl _ W') (.cells #[.int .i64 z.kind, .int .i64 z.int, .string z.text, .slice ZA z.items.length zc, .slice ZK z.keys.length zd] 25)
  exact ⟨rfl, hF.trans (Fr.of_below hb g D) (fun _ h => .inl h), fun _ => ⟨_, _, _, hN.on hb, fun b hb => .inr (.inl hb)⟩⟩
open Go.RowKit
theorem find_kind {x : V} {s : Stp} (hf : Fit x) (h : (findV x s).2 = true) : x.kind = holderS s := by
  obtain ⟨i, k⟩ := s
  by_cases h0 : 0 ≤ i
  · simp [findV, h0] at h
    rw [holderS, if_neg (by simp only; omega)]; exact h.1
  · rw [holderS, if_pos (by simp only; omega)]
    simp [findV, h0] at h
    have hm := (hasK_iff _ _).1 h
    by_cases h5 : x.kind = 5
    · exact h5
    · rw [hf.none h5] at hm; cases hm
/-- What remove leaves. -/
def RemP (q : V × Bool) (N g : Nat) (t : TypeId) (pre post : List Value) (D : Nat → Prop) (W : World) (e : Ending) (W' : World) : Prop :=
  e = .returned (.bool q.2) ∧ Fr W W' g D ∧ (q.2 = true → ∃ vI' vK' D', Node W' N g t pre post q.1 vI' vK' D' ∧ ∀ b, D' b → D b ∨ W.heap.size ≤ b)
section
variable {W W' W1 : World} {N g n m c gI cp : Nat} {t : TypeId} {pre post : List Value} {x y : V} {vI vK : Value} {D D1 : Nat → Prop} {q : V × Bool} {e : Ending}
theorem RemP.trans (h : RemP q N g t pre post D1 W1 e W') (hF : Fr W W1 g D) (hD : ∀ b, D1 b → D b ∨ W.heap.size ≤ b) : RemP q N g t pre post D W e W' := by
  obtain ⟨h1, h2, h3⟩ := h
  refine ⟨h1, hF.trans h2 hD, fun h0 => ?_⟩
  obtain ⟨vI', vK', D', hN, hD'⟩ := h3 h0
  refine ⟨vI', vK', D', hN, fun b hb => ?_⟩
  rcases hD' b hb with h | h
  · exact hD b h
  · exact .inr (Nat.le_trans hF.size h)
end
open Go.RowKit
theorem rem_gone {x : V} {s : Stp} {r : List Stp} (h : (findV x s).2 = false) : removeV x (s :: r) = (x, false) := by rw [removeV, if_neg (by simp [h])]
theorem rem_last {x : V} {s : Stp} (h : (findV x s).2 = true) : removeV x [s] = (delV x s, true) := by rw [removeV, if_pos h, if_pos rfl]
theorem rem_on {x y : V} {s s' : Stp} {r : List Stp} (h : (findV x s).2 = true) (hy : x.items[whereV x s]? = some y) : removeV x (s :: s' :: r) = (setIt x (whereV x s) (removeV y (s' :: r)).1, (removeV y (s' :: r)).2) := by
  rw [removeV, if_pos h, if_neg (by simp), List.getD_eq_getElem?_getD, hy]
  rfl
end Go.Proofs.YtchadlbhdcpojaaDoor
