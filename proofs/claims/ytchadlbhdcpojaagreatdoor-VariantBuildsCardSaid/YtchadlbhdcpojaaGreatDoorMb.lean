/- Values and their keys: what lies where; keys appended onto nothing. -/
import Derived.Test.YtchadlbhdcpojaaGreatDoorXd
import Derived.Test.YtchadlbhdcpojaaGreatDoorWr
import Derived.Deep.Upon
import Derived.Deep.AppendLies
namespace Go.Proofs.YtchadlbhdcpojaaGreatDoor
open Go.RowKit

theorem five_of {w : World} {g : Nat} {t : TypeId} {a b c d e : Value} (h : BlockIs w g t #[a, b, c, d, e]) : w.cell? ⟨g, 0, none⟩ = some a ∧ w.cell? ⟨g, 1, none⟩ = some b ∧ w.cell? ⟨g, 2, none⟩ = some c ∧ w.cell? ⟨g, 3, none⟩ = some d ∧ w.cell? ⟨g, 4, none⟩ = some e :=
  ⟨h.cell 0, h.cell 1, h.cell 2, h.cell 3, h.cell 4⟩
theorem lies_items {w : World} {B : Nat} {x : V} {A K : Option Addr} {c d : Nat} (h : Lies w B x A c K d) : LiesL w B A c x.items := by cases x; exact h.items
theorem lies_keys {w : World} {B : Nat} {x : V} {A K : Option Addr} {c d : Nat} (h : Lies w B x A c K d) : Strs w B K d x.keys := by cases x; exact h.keys
/-- What is known of a valid value's keys. -/
theorem okk {x : V} (h : x.ok = true) : Rising x.keys ∧ (¬ x.kind = 5 → x.keys = []) ∧ (x.kind = 5 → x.keys.length = x.items.length) := by
  obtain ⟨k, i, t, l, ks⟩ := x
  rw [V.ok, Bool.and_eq_true] at h
  obtain ⟨hs, -⟩ := h
  simp only [V.sound] at hs
  simp only [V.keys, V.kind, V.items]
  have nil : ks.length = 0 → Rising ks ∧ (¬ k = 5 → ks = []) := fun e => by
    rw [List.length_eq_zero_iff] at e
    subst e
    exact ⟨List.Pairwise.nil, fun _ => rfl⟩
  split at hs
  · simp at hs; have := nil (by simp [hs]); exact ⟨this.1, this.2, fun e => by omega⟩
  · split at hs
    · simp at hs; have := nil (by simp [hs]); exact ⟨this.1, this.2, fun e => by omega⟩
    · split at hs
      · simp at hs; have := nil (by simp [hs]); exact ⟨this.1, this.2, fun e => by omega⟩
      · split at hs
        · simp at hs; have := nil (by simp [hs]); exact ⟨this.1, this.2, fun e => by omega⟩
        · split at hs
          · simp at hs; have := nil (by simp [hs]); exact ⟨this.1, this.2, fun e => by omega⟩
          · split at hs
            · simp only [Bool.and_eq_true, beq_iff_eq] at hs
              exact ⟨(rising_of hs.2).1, fun e => absurd (by assumption) e, fun _ => hs.1.2⟩
            · cases hs
/-- Keys appended onto nothing lie in a row of their own. -/
theorem append_keys (ty : TypeId) (W : World) (K : Option Addr) (d : Nat) (ks : List ByteArray) (h : Strs W W.heap.size K d ks) (hk : ks.length ≤ 1000000) :
    ∃ K' d' W', (Builtin.append_ #[25, 25] ty #[.slice none 0 0, .slice K ks.length d]).run Tryz.prog W = .ok (.slice K' ks.length d') W' ∧ StrsIn (Fresh W W') W' K' d' ks ∧ Below W.heap.size W W' := by
  obtain ⟨i0, hi, hz0, hz1, hz2⟩ := info_parts (P := Tryz.prog) (e := 9) (z := (.string ⟨#[]⟩)) (size := 1) (bytes := 16) (by kernel_rfl)
  rcases Nat.eq_zero_or_pos ks.length with h0 | hpos
  · obtain rfl := List.length_eq_zero_iff.1 h0
    refine ⟨none, 0, W, ?_, ⟨Nat.le_refl _, by simp [maxLen], .inl rfl⟩, Below.refl _ W⟩
    have hs : Src Tryz.prog i0.size 25 (.slice K 0 d) 0 [] W := by
      cases K with
      | none => exact Src.ofNil W Tryz.underlying25 d
      | some a => exact Src.ofSlice W Tryz.underlying25 a 0 d [] (by simp) (fun j u hj => by simp at hj) (fun u hu => by cases hu)
    exact run_append_nothing (P := Tryz.prog) W 25 25 ty 9 i0 Tryz.underlying25 hi none 0 0 (Nat.le_refl _) _ hs
  · rcases h.2.2 with rfl | ⟨b, o, rfl, hb, hf⟩
    · simp at hpos
    · have hrun := run_append_nil (P := Tryz.prog) W 25 ty 9 i0 (.string ⟨#[]⟩) Tryz.underlying25 hi hz0 ⟨b, o, none⟩ ks.length d (ks.map Value.string) (by rw [hz1]; simp) (fun j v hj => by
        rw [List.getElem?_map] at hj
        obtain ⟨s, hs, rfl⟩ := Option.map_eq_some_iff.1 hj
        rw [Addr.add_lit]
        exact (hf.at_ hs).1) hpos (by omega) (by rw [hz2]; omega)
      have hge := grownCap_ge W ks.length 0 9
      have hle := grownCap_le_maxLen W ks.length 0 9 (by unfold maxLen; omega)
      refine ⟨_, _, _, hrun, ⟨hge, hle, .inr ⟨W.heap.size, 0, rfl, ⟨Nat.le_refl _, by simp⟩, keys_from (fun k hk => ?_) fun j v hj => ?_⟩⟩, (Below.refl _ W).drew.alloc (Nat.le_refl _) _⟩
      · obtain ⟨j, hj, rfl⟩ := List.getElem_of_mem hk
        exact (hf.at_ (List.getElem?_eq_getElem hj)).2
      · rw [Nat.zero_add]
        refine (World.cell?_alloc_new W.drew _ _ j).trans ?_
        have hlt : j < (ks.map Value.string).length := (List.getElem?_eq_some_iff.1 hj).1
        rw [Array.getElem?_append_left (by simpa using hlt), List.getElem?_toArray]
        exact hj
theorem grown_none {W W' : World} (hb : Below W.heap.size W W') : W.grownBy W' none := grow_below ⟨rfl, rfl, rfl, Nat.le_refl _, fun _ _ _ => rfl⟩ hb
theorem nodes_items (x : V) : x.nodes = V.nodesL x.items + 1 := by cases x; rw [V.nodes]; rfl
theorem okL_mem : ∀ {l : List V}, V.okL l = true → ∀ y ∈ l, y.ok = true
  | [], _, y, h => by cases h
  | x :: r, h, y, hy => by
    rw [V.okL, Bool.and_eq_true] at h
    rcases List.mem_cons.1 hy with rfl | hy
    · exact h.1
    · exact okL_mem h.2 y hy
theorem okItems {x : V} (h : x.ok = true) : ∀ y ∈ x.items, y.ok = true := by
  cases x
  rw [V.ok, Bool.and_eq_true] at h
  exact okL_mem h.2
theorem length_le_nodesL : ∀ (l : List V), l.length ≤ V.nodesL l
  | [] => Nat.zero_le _
  | x :: r => by have := length_le_nodesL r; have := V.nodes_pos x; simp only [V.nodesL, List.length_cons]; omega
theorem lies_text {w : World} {B : Nat} {x : V} {A K : Option Addr} {c d : Nat} (h : Lies w B x A c K d) : x.text.size ≤ maxLen := by cases x; exact h.text
end Go.Proofs.YtchadlbhdcpojaaGreatDoor
