/- What was put where nothing was, taken out again: plain. -/
import Derived.Test.YtchadlbhdcpojaaGreatDoorTm
import Derived.Test.YtchadlbhdcpojaaGreatDoorTd
import Derived.Test.YtchadlbhdcpojaaGreatDoorJa
namespace Go.Proofs.YtchadlbhdcpojaaGreatDoor
open Go.RowKit
open Go.RowKit
theorem holder_any (i : Int) (t : ByteArray) (hs : stepB (i, t) = true) (w : World) : Calls Tryz.prog 31 #[.agg #[.int .i64 i, .string t]] w fun e w' => e = .returned (.int .i64 (holderS (i, t))) ∧ Below w.heap.size w w' := by
  by_cases h0 : 0 ≤ i
  · rw [holderS, if_neg (by simp only; omega)]; exact holder_index i h0 t w
  · have h1 : i = -1 := by
      unfold stepB at hs
      by_cases e : i = -1
      · exact e
      · rw [if_neg (by simpa using e)] at hs
        simp at hs
        omega
    subst h1
    exact holder_key t w
/-- A value that is to be laid, apart from where it is laid. -/
structure ZIn (W : World) (N g : Nat) (z : V) (zI zK : Value) (D Dz : Nat → Prop) : Prop where
  tree : Tree W N z zI zK Dz
  low : ∀ b, Dz b → N ≤ b ∧ b < W.heap.size
  far : ∀ b, Dz b → ¬ D b ∧ b ≠ g
/-- What put leaves. -/
def PutP (q : V × Int) (N g : Nat) (t : TypeId) (pre post : List Value) (D Dz : Nat → Prop) (W : World) (e : Ending) (W' : World) : Prop :=
  e = .returned (.int .i64 q.2) ∧ Fr W W' g D ∧ (q.2 = 0 → ∃ vI' vK' D', Node W' N g t pre post q.1 vI' vK' D' ∧ ∀ b, D' b → D b ∨ Dz b ∨ W.heap.size ≤ b)
section
variable {W W' W1 W2 : World} {N g n m c gI cp : Nat} {t : TypeId} {pre post : List Value} {x y z : V} {vI vK zI zK : Value} {D D1 Dz : Nat → Prop} {q : V × Int} {e : Ending}
theorem ZIn.fr (h : ZIn W N g z zI zK D Dz) (hF : Fr W W' g D) (hD : ∀ b, D1 b → D b ∨ W.heap.size ≤ b) : ZIn W' N g z zI zK D1 Dz :=
  ⟨h.tree.keep z (fun b hb => hF.block b (h.low b hb).2 (h.far b hb).2 (h.far b hb).1) (fun _ h => h), fun b hb => ⟨(h.low b hb).1, by have := (h.low b hb).2; have := hF.size; omega⟩, fun b hb => ⟨fun e => by
    rcases hD b e with e | e
    · exact (h.far b hb).1 e
    · have := (h.low b hb).2; omega, (h.far b hb).2⟩⟩
theorem ZIn.on (h : ZIn W N g z zI zK D Dz) (hb : Below W.heap.size W W') : ZIn W' N g z zI zK D Dz := h.fr (Fr.of_below hb g D) (fun _ h => .inl h)
theorem PutP.trans (h : PutP q N g t pre post D1 Dz W1 e W') (hF : Fr W W1 g D) (hD : ∀ b, D1 b → D b ∨ W.heap.size ≤ b) : PutP q N g t pre post D Dz W e W' := by
  obtain ⟨h1, h2, h3⟩ := h
  refine ⟨h1, hF.trans h2 hD, fun h0 => ?_⟩
  obtain ⟨vI', vK', D', hN, hD'⟩ := h3 h0
  refine ⟨vI', vK', D', hN, fun b hb => ?_⟩
  rcases hD' b hb with h | h | h
  · rcases hD b h with h | h
    · exact .inl h
    · exact .inr (.inr h)
  · exact .inr (.inl h)
  · exact .inr (.inr (Nat.le_trans hF.size h))
theorem PutP.bad {r : Int} (hq : q.2 = r) (h0 : ¬ r = 0) (hF : Fr W W' g D) : PutP q N g t pre post D Dz W (.returned (.int .i64 r)) W' :=
  ⟨by rw [hq], hF, fun h => absurd (hq.symm.trans h) h0⟩
theorem Fr.set (W : World) (g o : Nat) (u : Value) (D : Nat → Prop) : Fr W (W.setCell ⟨g, o, none⟩ u) g D := ⟨rfl, rfl, rfl, by simp, fun b _ hb _ => Below.heap_setCell _ _ _ _ hb⟩
/-- The five cells of a value are laid. -/
theorem Node.put5 (h : Node W N g t pre post x vI vK D) (hz : ZIn W N g z zI zK D Dz) (hW : W' = ((((W.setCell ⟨g, pre.length, none⟩ (.int .i64 z.kind)).setCell ⟨g, pre.length + 1, none⟩ (.int .i64 z.int)).setCell ⟨g, pre.length + 2, none⟩ (.string z.text)).setCell ⟨g, pre.length + 3, none⟩ zI).setCell ⟨g, pre.length + 4, none⟩ zK) :
    Node W' N g t pre post z zI zK Dz ∧ Fr W W' g D := by
  have h0 := block_set h.row 0 (by simp [five]) (.int .i64 z.kind)
  rw [Nat.add_zero] at h0
  have h1 := block_set h0 1 (by simp [five]) (.int .i64 z.int)
  have h2 := block_set h1 2 (by simp [five]) (.string z.text)
  have h3 := block_set h2 3 (by simp [five]) zI
  have h4 := block_set h3 4 (by simp [five]) zK
  have hF : Fr W W' g D := by
    rw [hW]
    exact ((((Fr.set W g _ _ D).trans (Fr.set _ g _ _ D) fun _ h => .inl h).trans (Fr.set _ g _ _ D) fun _ h => .inl h).trans (Fr.set _ g _ _ D) fun _ h => .inl h).trans (Fr.set _ g _ _ D) fun _ h => .inl h
  rw [← hW] at h4
  have hz' := hz.fr (D1 := D) hF (fun _ h => .inl h)
  exact ⟨⟨by simpa [five] using h4, hz'.tree, fun e => (hz.far g e).2 rfl, hz'.low, h.base⟩, hF⟩
theorem put_inner {r : List Stp} {A : Option Addr} (hN : Node W N g t pre post x (.slice (some ⟨gI, 0, none⟩) m c) vK D) (hy : x.items[n]? = some y) (hz : ZIn W N g z zI zK D Dz) (hp : PLies W N A cp r)
    (ih : ∀ (W : World) (g : Nat) (t : TypeId) (pre post : List Value) (vI vK : Value) (D : Nat → Prop) (A : Option Addr) (cp : Nat), Node W N g t pre post y vI vK D → ZIn W N g z zI zK D Dz → PLies W N A cp r →
      Calls Tryz.prog 18 #[.pointer (some ⟨g, pre.length, none⟩), .slice A r.length cp, .agg #[.int .i64 z.kind, .int .i64 z.int, .string z.text, zI, zK]] W (PutP q N g t pre post D Dz W)) :
    Calls Tryz.prog 18 #[.pointer (some ⟨gI, n * 5, none⟩), .slice A r.length cp, .agg #[.int .i64 z.kind, .int .i64 z.int, .string z.text, zI, zK]] W (PutP (setIt x n q.1, q.2) N g t pre post D Dz W) := by
  obtain ⟨gJ, cJ, pre', post', yI, yK, D0, eJ, hpre, hNy, hD0, hDg, hup⟩ := hN.down hy
  have eg : gI = gJ := by
    have := eJ
    simp at this
    exact this.1
  subst eg
  rw [← hpre]
  refine (ih W gI _ pre' post' yI yK D0 A cp hNy ⟨hz.tree, hz.low, fun b hb => ⟨fun h => (hz.far b hb).1 (hD0 b h), fun e => (hz.far b hb).1 (by rw [e]; exact hDg)⟩⟩ hp).mono ?_
  rintro e w' ⟨h1, h2, h3⟩
  refine ⟨h1, h2.up hD0 hDg, fun h0 => ?_⟩
  obtain ⟨vI', vK', D', hN', hD'⟩ := h3 h0
  refine ⟨_, _, _, hup Dz w' q.1 vI' vK' D' (fun b hb => ⟨(hz.far b hb).1, (hz.far b hb).2, hz.low b hb⟩) hN' hD' h2, fun b hb => ?_⟩
  rcases hb with h | h | h
  · exact .inl h
  · exact .inr (.inl h)
  · exact .inr (.inr h.1)
end
set_option maxRecDepth 100000 in
set_option maxHeartbeats 8000000 in
theorem put_end (x z : V) (N g : Nat) (t : TypeId) (pre post : List Value) (vI vK zI zK : Value) (D Dz : Nat → Prop) (W : World) (A : Option Addr) (cp : Nat) (h : Node W N g t pre post x vI vK D) (hz : ZIn W N g z zI zK D Dz) :
    Calls Tryz.prog 18 #[.pointer (some ⟨g, pre.length, none⟩), .slice A 0 cp, .agg #[.int .i64 z.kind, .int .i64 z.int, .string z.text, zI, zK]] W (PutP (z, 0) N g t pre post D Dz W) := by
  obtain ⟨⟨ZA, zc, rfl⟩, ZK, zd, rfl⟩ := hz.tree.forms
  have HP := Lib.hid (fun W' (e : W' = ((((W.setCell ⟨g, pre.length, none⟩ (.int .i64 z.kind)).setCell ⟨g, pre.length + 1, none⟩ (.int .i64 z.int)).setCell ⟨g, pre.length + 2, none⟩ (.string z.text)).setCell ⟨g, pre.length + 3, none⟩ (.slice ZA z.items.length zc)).setCell ⟨g, pre.length + 4, none⟩ (.slice ZK z.keys.length zd)) => h.put5 hz e)
  obtain ⟨c0, c1, c2, c3, c4⟩ := h.cells
  obtain ⟨f0, f1, f2, f3, f4, gl⟩ := h.frozen
  clear h hz
  go_enter Tryz.func18, Tryz.ntmps18
  go_wp2_with fail
  refine bodyPost_ret (v := .int .i64 0) (by simp [results, Tryz.results18, go_sem]) rfl ?_
  obtain ⟨W', hW'⟩ : ∃ W', W' = ((((W.setCell ⟨g, pre.length, none⟩ (.int .i64 z.kind)).setCell ⟨g, pre.length + 1, none⟩ (.int .i64 z.int)).setCell ⟨g, pre.length + 2, none⟩ (.string z.text)).setCell ⟨g, pre.length + 3, none⟩ (.slice ZA z.items.length zc)).setCell ⟨g, pre.length + 4, none⟩ (.slice ZK z.keys.length zd) := ⟨_, rfl⟩
  rw [← hW']
  obtain ⟨hN, hF⟩ := HP.out W' hW'
  have hb := below_al (Below.refl _ W') (.cells #[.int .i64 z.kind, .int .i64 z.int, .string z.text, .slice ZA z.items.length zc, .slice ZK z.keys.length zd] 27)
  exact ⟨rfl, hF.trans (Fr.of_below hb g D) (fun _ h => .inl h), fun _ => ⟨_, _, _, hN.on hb, fun b hb => .inr (.inl hb)⟩⟩
open Go.RowKit
/-- What remove leaves. -/
def RemP (q : V × Bool) (N g : Nat) (t : TypeId) (pre post : List Value) (D : Nat → Prop) (W : World) (e : Ending) (W' : World) : Prop :=
  e = .returned (.bool q.2) ∧ Fr W W' g D ∧ (q.2 = true → ∃ vI' vK' D', Node W' N g t pre post q.1 vI' vK' D' ∧ ∀ b, D' b → D b ∨ W.heap.size ≤ b)
section
variable {W W' W1 : World} {N g n m c gI cp : Nat} {t : TypeId} {pre post : List Value} {x y : V} {vI vK : Value} {D D1 : Nat → Prop} {q : V × Bool} {e : Ending}
theorem RemP.trans (h : RemP q N g t pre post D1 W1 e W') (hF : Fr W W1 g D) (hD : ∀ b, D1 b → D b ∨ W.heap.size ≤ b) : RemP q N g t pre post D W e W' := by
  obtain ⟨h1, h2, h3⟩ := h
  refine ⟨h1, hF.trans h2 hD, fun h0 => ?_⟩
  obtain ⟨vI', vK', D', hN, hD'⟩ := h3 h0
  refine ⟨vI', vK', D', hN, fun b hb => ?_⟩
  rcases hD' b hb with h | h
  · exact hD b h
  · exact .inr (Nat.le_trans hF.size h)
end
open Go.RowKit
end Go.Proofs.YtchadlbhdcpojaaGreatDoor
