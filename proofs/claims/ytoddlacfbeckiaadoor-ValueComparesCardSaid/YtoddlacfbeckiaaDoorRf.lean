/- The definitions' Same. -/
import Derived.Test.YtoddlacfbeckiaaDoorRe
namespace Go.Proofs.YtoddlacfbeckiaaDoor
open Go.RowKit

theorem bytes_ne {s t : ByteArray} (h : ¬ s = t) : (s.toList == t.toList) = false := by
  rw [beq_eq_false_iff_ne, ByteArray.toList_eq, ByteArray.toList_eq]
  intro e
  apply h
  obtain ⟨⟨a⟩⟩ := s
  obtain ⟨⟨b⟩⟩ := t
  simp at e
  rw [e]
set_option maxRecDepth 100000 in
set_option maxHeartbeats 1000000 in
theorem same_keys (k i : Int) (t : ByteArray) (n n' : Nat) (ks ks' : List ByteArray) (w : World) (A K : Option Addr) (c d : Nat) (A' K' : Option Addr) (c' d' : Nat) (b : Bool)
    (hK : Strs w w.heap.size K d ks) (hK' : Strs w w.heap.size K' d' ks') (hl : ks.length = ks'.length)
    (HC : Hid (ks = ks' → ∀ W : World, Below w.heap.size w W → Calls Tryd.prog 39 #[.slice A n c, .slice A' n' c'] W fun e w' => e = .returned (.bool b) ∧ Below W.heap.size W w')) :
    Calls Tryd.prog 20 #[.agg #[.int .i64 k, .int .i64 i, .string t, .slice A n c, .slice K ks.length d], .agg #[.int .i64 k, .int .i64 i, .string t, .slice A' n' c', .slice K' ks'.length d']] w fun e w' => (Hid (ks = ks') ∧ e = .returned (.bool b) ∨ Hid (¬ ks = ks') ∧ e = .returned (.bool false)) ∧ Below w.heap.size w w' := by
  obtain ⟨m, hm⟩ : ∃ m, m = ks.length := ⟨_, rfl⟩
  rw [← hl, ← hm]
  have hlen : m ≤ 9223372036854775807 := by have := hK.1; have := hK.2.1; unfold maxLen at *; omega
  have HM := Lib.hid hm
  have HM' := Lib.hid (hm.trans hl)
  have HK := Lib.hid hK
  have HK' := Lib.hid hK'
  clear hm hl hK hK'
  go_enter Tryd.func20, Tryd.ntmps20
  go_wp2_with fail
  go_loopw [5] (fun j wr => ∃ q : Nat, q ≤ m ∧ j = .int .i64 q ∧ Hid (ks.take q = ks'.take q) ∧ Hid (Below (w.heap.size + 2) ((w.alloc (.cells #[.int .i64 k, .int .i64 i, .string t, .slice A n c, .slice K m d] 25)).alloc (.cells #[.int .i64 k, .int .i64 i, .string t, .slice A' n' c', .slice K' m d'] 25)) wr)) (fun j _ => m - (intOf j).toNat)
  case atStart => exact ⟨0, Nat.zero_le _, rfl, Lib.hid (by simp), Lib.hid (Below.refl _ _)⟩
  case round =>
    obtain ⟨q, hq, rfl, HA, HW⟩ := hrel
    have hc := bcell HW.out
    have hz := HW.out.size
    simp only [World.size_alloc] at hz
    have q4 : wr.cell? ⟨w.heap.size, 4, none⟩ = some (.slice K m d) := (hc w.heap.size 4 (by omega)).trans (by simp [go_sem])
    have q4' : wr.cell? ⟨w.heap.size + 1, 4, none⟩ = some (.slice K' m d') := (hc (w.heap.size + 1) 4 (by omega)).trans (by simp [go_sem])
    have q3 : wr.cell? ⟨w.heap.size, 3, none⟩ = some (.slice A n c) := (hc w.heap.size 3 (by omega)).trans (by simp [go_sem])
    have q3' : wr.cell? ⟨w.heap.size + 1, 3, none⟩ = some (.slice A' n' c') := (hc (w.heap.size + 1) 3 (by omega)).trans (by simp [go_sem])
    have hW0 : Below w.heap.size w wr := (((Below.refl _ _).alloc (Nat.le_refl _) _).alloc (by simp) _).trans (HW.out.mono (by omega))
    have HW0 := Lib.hid hW0
    clear hc hW0
    by_cases hlt : q < m
    · have hlt1 : q < ks.length := by rw [← HM.out]; exact hlt
      have hlt2 : q < ks'.length := by rw [← HM'.out]; exact hlt
      obtain ⟨b1, o1, rfl, hb1, hc1⟩ := (HK.out.keep (bcell HW0.out) (Nat.le_refl _)).at_ (k := q) hlt1
      obtain ⟨b2, o2, rfl, hb2, hc2⟩ := (HK'.out.keep (bcell HW0.out) (Nat.le_refl _)).at_ (k := q) hlt2
      obtain ⟨s, hs⟩ : ∃ s, ks[q]? = some s := ⟨_, List.getElem?_eq_getElem hlt1⟩
      obtain ⟨s', hs'⟩ : ∃ s, ks'[q]? = some s := ⟨_, List.getElem?_eq_getElem hlt2⟩
      obtain ⟨e1, _⟩ := hc1 q s hs
      obtain ⟨e2, _⟩ := hc2 q s' hs'
      have HS := Lib.hid hs
      have HS' := Lib.hid hs'
      have h0 : 0 ≤ (q : Int) := by omega
      have h1 : (q : Int) < m := by omega
      clear hlt1 hlt2 hc1 hc2 hs hs'
      by_cases hss : s = s'
      · subst hss
        go_wp2_with fail
        go_quiet (fail)
        go_wp2_with fail
        go_roundw
        case rel => exact ⟨q + 1, by omega, by go_num, Lib.hid ((take_eq_succ HS.out HS'.out).2 ⟨HA.out, rfl⟩), Lib.hid (below_drewN HW.out _)⟩
        case measure => simp [intOf]; omega
      · have hne := bytes_ne hss
        have HSS := Lib.hid hss
        clear hss
        go_wp2_with fail
        go_quiet (fail)
        go_wp2_with fail
        go_ret
        go_light
        refine ⟨.inr ⟨Lib.hid ?_, rfl⟩, below_drewN HW0.out _⟩
        rintro rfl
        exact HSS.out ((take_eq_succ HS.out HS'.out).1 rfl).2
    · have he : ks = ks' := by have := HA.out; rwa [List.take_of_length_le (by have := HM.out; omega), List.take_of_length_le (by have := HM'.out; omega)] at this
      have HE := Lib.hid he
      have HC1 := Lib.hid (HC.out he wr HW0.out)
      clear he
      go_wp2_with fail
      refine HC1.out.mono ?_
      rintro e w1 ⟨rfl, hb⟩
      go_wp2_with fail
      go_ret
      go_light
      exact ⟨.inl ⟨HE, rfl⟩, HW0.out.trans (hb.mono (by omega))⟩

set_option maxRecDepth 100000 in
set_option maxHeartbeats 1000000 in
theorem same_ne (k i k' i' : Int) (t t' : ByteArray) (n n' m m' : Nat) (w : World) (A K : Option Addr) (c d : Nat) (A' K' : Option Addr) (c' d' : Nat)
    (h : k ≠ k' ∨ k = k' ∧ i ≠ i' ∨ k = k' ∧ i = i' ∧ ¬ t = t' ∨ k = k' ∧ i = i' ∧ t = t' ∧ m ≠ m') :
    Calls Tryd.prog 20 #[.agg #[.int .i64 k, .int .i64 i, .string t, .slice A n c, .slice K m d], .agg #[.int .i64 k', .int .i64 i', .string t', .slice A' n' c', .slice K' m' d']] w fun e w' => e = .returned (.bool false) ∧ Below w.heap.size w w' := by
  rcases h with h | ⟨rfl, h⟩ | ⟨rfl, rfl, h⟩ | ⟨rfl, rfl, rfl, h⟩
  · have hne : (k != k') = true := by rw [bne_iff_ne]; exact h
    clear h
    go_enter Tryd.func20, Tryd.ntmps20
    go_wp2_with fail
    go_ret
    exact ⟨rfl, ((Below.refl _ _).alloc (Nat.le_refl _) _).alloc (by simp) _⟩
  · have hne : (i != i') = true := by rw [bne_iff_ne]; exact h
    clear h
    go_enter Tryd.func20, Tryd.ntmps20
    go_wp2_with fail
    go_ret
    exact ⟨rfl, ((Below.refl _ _).alloc (Nat.le_refl _) _).alloc (by simp) _⟩
  · have hne := bytes_ne h
    clear h
    go_enter Tryd.func20, Tryd.ntmps20
    go_wp2_with fail
    go_ret
    exact ⟨rfl, ((Below.refl _ _).alloc (Nat.le_refl _) _).alloc (by simp) _⟩
  · have hne : ((m : Int) != (m' : Int)) = true := by rw [bne_iff_ne]; omega
    clear h
    go_enter Tryd.func20, Tryd.ntmps20
    go_wp2_with fail
    go_ret
    exact ⟨rfl, ((Below.refl _ _).alloc (Nat.le_refl _) _).alloc (by simp) _⟩

theorem same_any (N : Nat) : ∀ (x y : V) (w : World) (A K : Option Addr) (c d : Nat) (A' K' : Option Addr) (c' d' : Nat), x.nodes ≤ N → Lies w w.heap.size x A c K d → Lies w w.heap.size y A' c' K' d' →
      Calls Tryd.prog 20 #[.agg #[.int .i64 x.kind, .int .i64 x.int, .string x.text, .slice A x.items.length c, .slice K x.keys.length d], .agg #[.int .i64 y.kind, .int .i64 y.int, .string y.text, .slice A' y.items.length c', .slice K' y.keys.length d']] w (SamePost (x = y) w) := by
  induction N with
  | zero => intro x y w A K c d A' K' c' d' hx; have := x.nodes_pos; omega
  | succ N ih =>
    intro x y w A K c d A' K' c' d' hx h h'
    obtain ⟨k, i, t, l, ks⟩ := x
    obtain ⟨k', i', t', l', ks'⟩ := y
    simp only [V.kind, V.int, V.text, V.items, V.keys]
    rw [V.nodes] at hx
    by_cases hq : k ≠ k' ∨ k = k' ∧ i ≠ i' ∨ k = k' ∧ i = i' ∧ ¬ t = t' ∨ k = k' ∧ i = i' ∧ t = t' ∧ ks.length ≠ ks'.length
    · refine (same_ne k i k' i' t t' l.length l'.length ks.length ks'.length w A K c d A' K' c' d' hq).mono ?_
      rintro e w1 ⟨rfl, hb⟩
      refine ⟨false, rfl, ?_, hb⟩
      simp only [Bool.false_eq_true, false_iff]
      intro e
      injection e with e1 e2 e3 e4 e5
      rcases hq with h | ⟨_, h⟩ | ⟨_, _, h⟩ | ⟨_, _, _, h⟩
      · exact h e1
      · exact h e2
      · exact h e3
      · exact h (by rw [e5])
    · have hk : k = k' := Classical.byContradiction fun h => hq (.inl h)
      have hi : i = i' := Classical.byContradiction fun h => hq (.inr (.inl ⟨hk, h⟩))
      have ht : t = t' := Classical.byContradiction fun h => hq (.inr (.inr (.inl ⟨hk, hi, h⟩)))
      have hl : ks.length = ks'.length := Classical.byContradiction fun h => hq (.inr (.inr (.inr ⟨hk, hi, ht, h⟩)))
      subst hk hi ht
      by_cases hll : l = l'
      · subst hll
        refine (same_keys k i t l.length l.length ks ks' w A K c d A' K' c' d' true h.keys h'.keys hl (Lib.hid fun he W hW => ?_)).mono ?_
        · refine (sameL_of N ih l l W A A' c c' (by omega) (h.items.keep (bcell hW) hW.size) (h'.items.keep (bcell hW) hW.size)).mono ?_
          rintro e w1 ⟨r, rfl, hr, hb⟩
          exact ⟨ret_bool (hr.2 rfl), hb⟩
        · rintro e w1 ⟨⟨he, rfl⟩ | ⟨he, rfl⟩, hb⟩
          · exact ⟨true, rfl, by simp [he.out], hb⟩
          · exact ⟨false, rfl, by simp; exact he.out, hb⟩
      · refine (same_keys k i t l.length l'.length ks ks' w A K c d A' K' c' d' false h.keys h'.keys hl (Lib.hid fun he W hW => ?_)).mono ?_
        · refine (sameL_of N ih l l' W A A' c c' (by omega) (h.items.keep (bcell hW) hW.size) (h'.items.keep (bcell hW) hW.size)).mono ?_
          rintro e w1 ⟨r, rfl, hr, hb⟩
          refine ⟨ret_bool ?_, hb⟩
          cases r
          · rfl
          · exact absurd (hr.1 rfl) hll
        · rintro e w1 ⟨⟨he, rfl⟩ | ⟨he, rfl⟩, hb⟩
          · exact ⟨false, rfl, by simp; intro h; exact absurd h hll, hb⟩
          · exact ⟨false, rfl, by simp; intro h; exact absurd h hll, hb⟩
theorem sameL_any (l l' : List V) (w : World) (A A' : Option Addr) (c c' : Nat) (h : LiesL w w.heap.size A c l) (h' : LiesL w w.heap.size A' c' l') :
    Calls Tryd.prog 39 #[.slice A l.length c, .slice A' l'.length c'] w (SamePost (l = l') w) :=
  sameL_of (V.nodesL l) (same_any _) l l' w A A' c c' (Nat.le_refl _) h h'
end Go.Proofs.YtoddlacfbeckiaaDoor
