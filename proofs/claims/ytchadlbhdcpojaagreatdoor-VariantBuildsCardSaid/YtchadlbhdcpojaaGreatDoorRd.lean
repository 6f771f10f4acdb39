/- The definitions' Size. -/
import Derived.Test.YtchadlbhdcpojaaGreatDoorRa
import Derived.Test.YtchadlbhdcpojaaGreatDoorWd
namespace Go.Proofs.YtchadlbhdcpojaaGreatDoor
open Go.RowKit

end Go.Proofs.YtchadlbhdcpojaaGreatDoor
/- The definitions' Same. -/
namespace Go.Proofs.YtchadlbhdcpojaaGreatDoor
open Go.RowKit

def SamePost (p : Prop) (w : World) (e : Ending) (w' : World) : Prop := ∃ b : Bool, e = .returned (.bool b) ∧ (b = true ↔ p) ∧ Below w.heap.size w w'

theorem keep10 {w0 wx w1 : World} {n b o b' o' : Nat} {v0 v1 v2 v3 v4 u0 u1 u2 u3 u4 : Value}
    (h : ((b < wx.heap.size ∧ b' < wx.heap.size ∧ n ≤ wx.heap.size) ∧ Hid (Below n w0 wx)) ∧
      (wx.cell? ⟨b, o, none⟩ = some v0 ∧ wx.cell? ⟨b, o + 1, none⟩ = some v1 ∧ wx.cell? ⟨b, o + 2, none⟩ = some v2 ∧ wx.cell? ⟨b, o + 3, none⟩ = some v3 ∧ wx.cell? ⟨b, o + 4, none⟩ = some v4) ∧
      (wx.cell? ⟨b', o', none⟩ = some u0 ∧ wx.cell? ⟨b', o' + 1, none⟩ = some u1 ∧ wx.cell? ⟨b', o' + 2, none⟩ = some u2 ∧ wx.cell? ⟨b', o' + 3, none⟩ = some u3 ∧ wx.cell? ⟨b', o' + 4, none⟩ = some u4))
    (hb : Below wx.heap.size wx w1) :
    ((b < w1.heap.size ∧ b' < w1.heap.size ∧ n ≤ w1.heap.size) ∧ Hid (Below n w0 w1)) ∧
      (w1.cell? ⟨b, o, none⟩ = some v0 ∧ w1.cell? ⟨b, o + 1, none⟩ = some v1 ∧ w1.cell? ⟨b, o + 2, none⟩ = some v2 ∧ w1.cell? ⟨b, o + 3, none⟩ = some v3 ∧ w1.cell? ⟨b, o + 4, none⟩ = some v4) ∧
      (w1.cell? ⟨b', o', none⟩ = some u0 ∧ w1.cell? ⟨b', o' + 1, none⟩ = some u1 ∧ w1.cell? ⟨b', o' + 2, none⟩ = some u2 ∧ w1.cell? ⟨b', o' + 3, none⟩ = some u3 ∧ w1.cell? ⟨b', o' + 4, none⟩ = some u4) := by
  obtain ⟨⟨⟨h1, h2, h3⟩, h4⟩, ⟨c0, c1, c2, c3, c4⟩, d0, d1, d2, d3, d4⟩ := h
  have hk := bcell hb
  have hs := hb.size
  exact ⟨⟨⟨by omega, by omega, by omega⟩, h4.out.trans (hb.mono (by omega))⟩, ⟨(hk _ _ h1).trans c0, (hk _ _ h1).trans c1, (hk _ _ h1).trans c2, (hk _ _ h1).trans c3, (hk _ _ h1).trans c4⟩,
    (hk _ _ h2).trans d0, (hk _ _ h2).trans d1, (hk _ _ h2).trans d2, (hk _ _ h2).trans d3, (hk _ _ h2).trans d4⟩

theorem take_eq_succ {α : Type} {l l' : List α} {k : Nat} {x y : α} (hx : l[k]? = some x) (hy : l'[k]? = some y) : l.take (k + 1) = l'.take (k + 1) ↔ l.take k = l'.take k ∧ x = y := by
  have e1 : l.take (k + 1) = l.take k ++ [x] := by rw [List.take_add_one, hx]; rfl
  have e2 : l'.take (k + 1) = l'.take k ++ [y] := by rw [List.take_add_one, hy]; rfl
  rw [e1, e2]
  constructor
  · intro h
    have h1 : k < l.length := (List.getElem?_eq_some_iff.1 hx).1
    have h2 : k < l'.length := (List.getElem?_eq_some_iff.1 hy).1
    have := List.append_inj h (by simp; omega)
    exact ⟨this.1, by simpa using this.2⟩
  · rintro ⟨h, rfl⟩; rw [h]

set_option maxRecDepth 100000 in
set_option maxHeartbeats 1000000 in
theorem sameL_of (N : Nat) (H : ∀ (x y : V) (w : World) (A K : Option Addr) (c d : Nat) (A' K' : Option Addr) (c' d' : Nat), x.nodes ≤ N → Lies w w.heap.size x A c K d → Lies w w.heap.size y A' c' K' d' →
      Calls Tryz.prog 7 #[.agg #[.int .i64 x.kind, .int .i64 x.int, .string x.text, .slice A x.items.length c, .slice K x.keys.length d], .agg #[.int .i64 y.kind, .int .i64 y.int, .string y.text, .slice A' y.items.length c', .slice K' y.keys.length d']] w (SamePost (x = y) w))
    (l l' : List V) (w : World) (A A' : Option Addr) (c c' : Nat) (hN : V.nodesL l ≤ N) (h : LiesL w w.heap.size A c l) (h' : LiesL w w.heap.size A' c' l') :
    Calls Tryz.prog 26 #[.slice A l.length c, .slice A' l'.length c'] w (SamePost (l = l') w) := by
  obtain ⟨n, hn⟩ : ∃ n, n = l.length := ⟨_, rfl⟩
  obtain ⟨m, hm⟩ : ∃ m, m = l'.length := ⟨_, rfl⟩
  have hlen : n ≤ 9223372036854775807 := by have := h.1; have := h.2.1; unfold maxLen at *; omega
  have HL := Lib.hid h
  have HL' := Lib.hid h'
  have HH := Lib.hid H
  have HN := Lib.hid hn
  have HM := Lib.hid hm
  rw [← hn, ← hm]
  clear h h' H hn hm
  by_cases hnm : n = m
  · subst hnm
    go_enter Tryz.func26, Tryz.ntmps26
    go_wp2_with fail
    go_loopw [5] (fun j wr => ∃ k : Nat, k ≤ n ∧ j = .int .i64 k ∧ Hid (l.take k = l'.take k) ∧ Hid (Below w.heap.size w wr)) (fun j _ => n - (intOf j).toNat)
    case atStart => exact ⟨0, Nat.zero_le _, rfl, Lib.hid (by simp), Lib.hid (Below.refl _ _)⟩
    case round =>
      obtain ⟨k, hk, rfl, HA, HW⟩ := hrel
      by_cases hlt : k < n
      · have hlt1 : k < l.length := by rw [← HN.out]; exact hlt
        have hlt2 : k < l'.length := by rw [← HM.out]; exact hlt
        have hk1 := HL.out.keep (w' := wr) (bcell HW.out) (HW.out.size)
        have hk2 := HL'.out.keep (w' := wr) (bcell HW.out) (HW.out.size)
        obtain ⟨b, o, rfl, hb1, hf1⟩ := hk1.at_ (k := k) hlt1
        obtain ⟨b', o', rfl, hb2, hf2⟩ := hk2.at_ (k := k) hlt2
        obtain ⟨x, hx⟩ : ∃ x, l[k]? = some x := ⟨_, List.getElem?_eq_getElem hlt1⟩
        obtain ⟨y, hy⟩ : ∃ y, l'[k]? = some y := ⟨_, List.getElem?_eq_getElem hlt2⟩
        obtain ⟨Ax, cx, Kx, dx, e0, e1, e2, e3, e4, hlx⟩ := hf1.at_ hx
        obtain ⟨Ay, cy, Ky, dy, q0, q1, q2, q3, q4, hly⟩ := hf2.at_ hy
        have hxn : x.nodes ≤ N := by have := V.nodes_mem (List.mem_of_getElem? hx); omega
        have HC := Lib.hid fun W (hW : Below wr.heap.size wr W) => HH.out x y W Ax Kx cx dx Ay Ky cy dy hxn (Lies.keep (bcell hW) hW.size _ hlx) (Lies.keep (bcell hW) hW.size _ hly)
        have HX := Lib.hid hx
        have HY := Lib.hid hy
        have hz := HW.out.size
        have h0 : 0 ≤ (k : Int) := by omega
        have h1 : (k : Int) < n := by omega
        clear hlt1 hlt2 hk1 hk2 hf1 hf2 hx hy hlx hly hxn
        go_wp2_with fail
        go_region_held3 (fun W => ((b < W.heap.size ∧ b' < W.heap.size ∧ wr.heap.size ≤ W.heap.size) ∧ Hid (Below wr.heap.size wr W)) ∧
            (W.cell? ⟨b, o + k * 5, none⟩ = some (.int .i64 x.kind) ∧ W.cell? ⟨b, o + k * 5 + 1, none⟩ = some (.int .i64 x.int) ∧ W.cell? ⟨b, o + k * 5 + 2, none⟩ = some (.string x.text) ∧ W.cell? ⟨b, o + k * 5 + 3, none⟩ = some (.slice Ax x.items.length cx) ∧ W.cell? ⟨b, o + k * 5 + 4, none⟩ = some (.slice Kx x.keys.length dx)) ∧
            (W.cell? ⟨b', o' + k * 5, none⟩ = some (.int .i64 y.kind) ∧ W.cell? ⟨b', o' + k * 5 + 1, none⟩ = some (.int .i64 y.int) ∧ W.cell? ⟨b', o' + k * 5 + 2, none⟩ = some (.string y.text) ∧ W.cell? ⟨b', o' + k * 5 + 3, none⟩ = some (.slice Ay y.items.length cy) ∧ W.cell? ⟨b', o' + k * 5 + 4, none⟩ = some (.slice Ky y.keys.length dy)))
          (first
            | (exact ⟨⟨⟨hb1, hb2, Nat.le_refl _⟩, Lib.hid (Below.drew (Below.refl _ _))⟩, ⟨e0, e1, e2, e3, e4⟩, q0, q1, q2, q3, q4⟩)
            | (exact keep10 (by assumption) hb3))
          (first
            | (go_at_call 7; refine (HC.out _ ?_).mono ?_; (go_split_ands; exact Hid.out (by assumption)); rintro e w1 ⟨r, rfl, hr, hb3⟩))
        have HB := Lib.hid hb3
        have HR := Lib.hid hr
        clear hb3 hr
        cases r
        · go_wp2_with fail
          go_ret
          go_light
          refine ⟨false, rfl, ?_, HW.out.trans ((Below.drew (Below.refl _ _)).trans (HB.out.mono (Nat.le_refl _)) |>.mono hz)⟩
          have hne := HR.out
          simp at hne
          simp
          rintro rfl
          have := (take_eq_succ HX.out HY.out).1 rfl
          exact hne this.2
        · go_wp2_with fail
          go_roundw
          case rel => exact ⟨k + 1, by omega, by go_num, Lib.hid ((take_eq_succ HX.out HY.out).2 ⟨HA.out, HR.out.1 rfl⟩), Lib.hid (HW.out.trans ((Below.drew (Below.refl _ _)).trans (HB.out.mono (Nat.le_refl _)) |>.mono hz))⟩
          case measure => simp [intOf]; omega
      · go_wp2_with fail
        go_ret
        go_light
        exact ⟨true, rfl, by simpa using (by have := HA.out; rwa [List.take_of_length_le (by have := HN.out; omega), List.take_of_length_le (by have := HM.out; omega)] at this), HW.out⟩
  · have hne : ((n : Int) != (m : Int)) = true := by rw [bne_iff_ne]; omega
    go_enter Tryz.func26, Tryz.ntmps26
    go_wp2_with fail
    go_ret
    go_light
    exact ⟨false, rfl, by simp; rintro rfl; exact hnm (HN.out.trans HM.out.symm), Below.refl _ _⟩
end Go.Proofs.YtchadlbhdcpojaaGreatDoor
/- The definitions' Same. -/
namespace Go.Proofs.YtchadlbhdcpojaaGreatDoor
open Go.RowKit

theorem bytes_ne {s t : ByteArray} (h : ¬ s = t) : (s.toList == t.toList) = false := by
  rw [beq_eq_false_iff_ne, ByteArray.toList_eq, ByteArray.toList_eq]
  intro e
  apply h
  obtain ⟨⟨a⟩⟩ := s
  obtain ⟨⟨b⟩⟩ := t
  simp at e
  rw [e]
set_option maxRecDepth 100000 in
set_option maxHeartbeats 1000000 in
theorem same_keys (k i : Int) (t : ByteArray) (n n' : Nat) (ks ks' : List ByteArray) (w : World) (A K : Option Addr) (c d : Nat) (A' K' : Option Addr) (c' d' : Nat) (b : Bool)
    (hK : Strs w w.heap.size K d ks) (hK' : Strs w w.heap.size K' d' ks') (hl : ks.length = ks'.length)
    (HC : Hid (ks = ks' → ∀ W : World, Below w.heap.size w W → Calls Tryz.prog 26 #[.slice A n c, .slice A' n' c'] W fun e w' => e = .returned (.bool b) ∧ Below W.heap.size W w')) :
    Calls Tryz.prog 7 #[.agg #[.int .i64 k, .int .i64 i, .string t, .slice A n c, .slice K ks.length d], .agg #[.int .i64 k, .int .i64 i, .string t, .slice A' n' c', .slice K' ks'.length d']] w fun e w' => (Hid (ks = ks') ∧ e = .returned (.bool b) ∨ Hid (¬ ks = ks') ∧ e = .returned (.bool false)) ∧ Below w.heap.size w w' := by
  obtain ⟨m, hm⟩ : ∃ m, m = ks.length := ⟨_, rfl⟩
  rw [← hl, ← hm]
  have hlen : m ≤ 9223372036854775807 := by have := hK.1; have := hK.2.1; unfold maxLen at *; omega
  have HM := Lib.hid hm
  have HM' := Lib.hid (hm.trans hl)
  have HK := Lib.hid hK
  have HK' := Lib.hid hK'
  clear hm hl hK hK'
  go_enter Tryz.func7, Tryz.ntmps7
  go_wp2_with fail
  go_loopw [5] (fun j wr => ∃ q : Nat, q ≤ m ∧ j = .int .i64 q ∧ Hid (ks.take q = ks'.take q) ∧ Hid (Below (w.heap.size + 2) ((w.alloc (.cells #[.int .i64 k, .int .i64 i, .string t, .slice A n c, .slice K m d] 27)).alloc (.cells #[.int .i64 k, .int .i64 i, .string t, .slice A' n' c', .slice K' m d'] 27)) wr)) (fun j _ => m - (intOf j).toNat)
  case atStart => exact ⟨0, Nat.zero_le _, rfl, Lib.hid (by simp), Lib.hid (Below.refl _ _)⟩
  case round =>
    obtain ⟨q, hq, rfl, HA, HW⟩ := hrel
    have hc := bcell HW.out
    have hz := HW.out.size
    simp only [World.size_alloc] at hz
    have q4 : wr.cell? ⟨w.heap.size, 4, none⟩ = some (.slice K m d) := (hc w.heap.size 4 (by omega)).trans (by simp [go_sem])
    have q4' : wr.cell? ⟨w.heap.size + 1, 4, none⟩ = some (.slice K' m d') := (hc (w.heap.size + 1) 4 (by omega)).trans (by simp [go_sem])
    have q3 : wr.cell? ⟨w.heap.size, 3, none⟩ = some (.slice A n c) := (hc w.heap.size 3 (by omega)).trans (by simp [go_sem])
    have q3' : wr.cell? ⟨w.heap.size + 1, 3, none⟩ = some (.slice A' n' c') := (hc (w.heap.size + 1) 3 (by omega)).trans (by simp [go_sem])
    have hW0 : Below w.heap.size w wr := (((Below.refl _ _).alloc (Nat.le_refl _) _).alloc (by simp) _).trans (HW.out.mono (by omega))
    have HW0 := Lib.hid hW0
    clear hc hW0
    by_cases hlt : q < m
    · have hlt1 : q < ks.length := by rw [← HM.out]; exact hlt
      have hlt2 : q < ks'.length := by rw [← HM'.out]; exact hlt
      obtain ⟨b1, o1, rfl, hb1, hc1⟩ := (HK.out.keep (bcell HW0.out) (Nat.le_refl _)).at_ (k := q) hlt1
      obtain ⟨b2, o2, rfl, hb2, hc2⟩ := (HK'.out.keep (bcell HW0.out) (Nat.le_refl _)).at_ (k := q) hlt2
      obtain ⟨s, hs⟩ : ∃ s, ks[q]? = some s := ⟨_, List.getElem?_eq_getElem hlt1⟩
      obtain ⟨s', hs'⟩ : ∃ s, ks'[q]? = some s := ⟨_, List.getElem?_eq_getElem hlt2⟩
      obtain ⟨e1, _⟩ := hc1 q s hs
      obtain ⟨e2, _⟩ := hc2 q s' hs'
      have HS := Lib.hid hs
      have HS' := Lib.hid hs'
      have h0 : 0 ≤ (q : Int) := by omega
      have h1 : (q : Int) < m := by omega
      clear hlt1 hlt2 hc1 hc2 hs hs'
      by_cases hss : s = s'
      · subst hss
        go_wp2_with fail
        go_quiet (fail)
        go_wp2_with fail
        go_roundw
        case rel => exact ⟨q + 1, by omega, by go_num, Lib.hid ((take_eq_succ HS.out HS'.out).2 ⟨HA.out, rfl⟩), Lib.hid (below_drewN HW.out _)⟩
        case measure => simp [intOf]; omega
      · have hne := bytes_ne hss
        have HSS := Lib.hid hss
        clear hss
        go_wp2_with fail
        go_quiet (fail)
        go_wp2_with fail
        go_ret
        go_light
        refine ⟨.inr ⟨Lib.hid ?_, rfl⟩, below_drewN HW0.out _⟩
        rintro rfl
        exact HSS.out ((take_eq_succ HS.out HS'.out).1 rfl).2
    · have he : ks = ks' := by have := HA.out; rwa [List.take_of_length_le (by have := HM.out; omega), List.take_of_length_le (by have := HM'.out; omega)] at this
      have HE := Lib.hid he
      have HC1 := Lib.hid (HC.out he wr HW0.out)
      clear he
      go_wp2_with fail
      refine HC1.out.mono ?_
      rintro e w1 ⟨rfl, hb⟩
      go_wp2_with fail
      go_ret
      go_light
      exact ⟨.inl ⟨HE, rfl⟩, HW0.out.trans (hb.mono (by omega))⟩

set_option maxRecDepth 100000 in
set_option maxHeartbeats 1000000 in
theorem same_ne (k i k' i' : Int) (t t' : ByteArray) (n n' m m' : Nat) (w : World) (A K : Option Addr) (c d : Nat) (A' K' : Option Addr) (c' d' : Nat)
    (h : k ≠ k' ∨ k = k' ∧ i ≠ i' ∨ k = k' ∧ i = i' ∧ ¬ t = t' ∨ k = k' ∧ i = i' ∧ t = t' ∧ m ≠ m') :
    Calls Tryz.prog 7 #[.agg #[.int .i64 k, .int .i64 i, .string t, .slice A n c, .slice K m d], .agg #[.int .i64 k', .int .i64 i', .string t', .slice A' n' c', .slice K' m' d']] w fun e w' => e = .returned (.bool false) ∧ Below w.heap.size w w' := by
  rcases h with h | ⟨rfl, h⟩ | ⟨rfl, rfl, h⟩ | ⟨rfl, rfl, rfl, h⟩
  · have hne : (k != k') = true := by rw [bne_iff_ne]; exact h
    clear h
    go_enter Tryz.func7, Tryz.ntmps7
    go_wp2_with fail
    go_ret
    exact ⟨rfl, ((Below.refl _ _).alloc (Nat.le_refl _) _).alloc (by simp) _⟩
  · have hne : (i != i') = true := by rw [bne_iff_ne]; exact h
    clear h
    go_enter Tryz.func7, Tryz.ntmps7
    go_wp2_with fail
    go_ret
    exact ⟨rfl, ((Below.refl _ _).alloc (Nat.le_refl _) _).alloc (by simp) _⟩
  · have hne := bytes_ne h
    clear h
    go_enter Tryz.func7, Tryz.ntmps7
    go_wp2_with fail
    go_ret
    exact ⟨rfl, ((Below.refl _ _).alloc (Nat.le_refl _) _).alloc (by simp) _⟩
  · have hne : ((m : Int) != (m' : Int)) = true := by rw [bne_iff_ne]; omega
    clear h
    go_enter Tryz.func7, Tryz.ntmps7
    go_wp2_with fail
    go_ret
    exact ⟨rfl, ((Below.refl _ _).alloc (Nat.le_refl _) _).alloc (by simp) _⟩

theorem same_any (N : Nat) : ∀ (x y : V) (w : World) (A K : Option Addr) (c d : Nat) (A' K' : Option Addr) (c' d' : Nat), x.nodes ≤ N → Lies w w.heap.size x A c K d → Lies w w.heap.size y A' c' K' d' →
      Calls Tryz.prog 7 #[.agg #[.int .i64 x.kind, .int .i64 x.int, .string x.text, .slice A x.items.length c, .slice K x.keys.length d], .agg #[.int .i64 y.kind, .int .i64 y.int, .string y.text, .slice A' y.items.length c', .slice K' y.keys.length d']] w (SamePost (x = y) w) := by
  induction N with
  | zero => intro x y w A K c d A' K' c' d' hx; have := x.nodes_pos; omega
  | succ N ih =>
    intro x y w A K c d A' K' c' d' hx h h'
    obtain ⟨k, i, t, l, ks⟩ := x
    obtain ⟨k', i', t', l', ks'⟩ := y
    simp only [V.kind, V.int, V.text, V.items, V.keys]
    rw [V.nodes] at hx
    by_cases hq : k ≠ k' ∨ k = k' ∧ i ≠ i' ∨ k = k' ∧ i = i' ∧ ¬ t = t' ∨ k = k' ∧ i = i' ∧ t = t' ∧ ks.length ≠ ks'.length
    · refine (same_ne k i k' i' t t' l.length l'.length ks.length ks'.length w A K c d A' K' c' d' hq).mono ?_
      rintro e w1 ⟨rfl, hb⟩
      refine ⟨false, rfl, ?_, hb⟩
      simp only [Bool.false_eq_true, false_iff]
      intro e
      injection e with e1 e2 e3 e4 e5
      rcases hq with h | ⟨_, h⟩ | ⟨_, _, h⟩ | ⟨_, _, _, h⟩
      · exact h e1
      · exact h e2
      · exact h e3
      · exact h (by rw [e5])
    · have hk : k = k' := Classical.byContradiction fun h => hq (.inl h)
      have hi : i = i' := Classical.byContradiction fun h => hq (.inr (.inl ⟨hk, h⟩))
      have ht : t = t' := Classical.byContradiction fun h => hq (.inr (.inr (.inl ⟨hk, hi, h⟩)))
      have hl : ks.length = ks'.length := Classical.byContradiction fun h => hq (.inr (.inr (.inr ⟨hk, hi, ht, h⟩)))
      subst hk hi ht
      by_cases hll : l = l'
      · subst hll
        refine (same_keys k i t l.length l.length ks ks' w A K c d A' K' c' d' true h.keys h'.keys hl (Lib.hid fun he W hW => ?_)).mono ?_
        · refine (sameL_of N ih l l W A A' c c' (by omega) (h.items.keep (bcell hW) hW.size) (h'.items.keep (bcell hW) hW.size)).mono ?_
          rintro e w1 ⟨r, rfl, hr, hb⟩
          exact ⟨ret_bool (hr.2 rfl), hb⟩
        · rintro e w1 ⟨⟨he, rfl⟩ | ⟨he, rfl⟩, hb⟩
          · exact ⟨true, rfl, by simp [he.out], hb⟩
          · exact ⟨false, rfl, by simp; exact he.out, hb⟩
      · refine (same_keys k i t l.length l'.length ks ks' w A K c d A' K' c' d' false h.keys h'.keys hl (Lib.hid fun he W hW => ?_)).mono ?_
        · refine (sameL_of N ih l l' W A A' c c' (by omega) (h.items.keep (bcell hW) hW.size) (h'.items.keep (bcell hW) hW.size)).mono ?_
          rintro e w1 ⟨r, rfl, hr, hb⟩
          refine ⟨ret_bool ?_, hb⟩
          cases r
          · rfl
          · exact absurd (hr.1 rfl) hll
        · rintro e w1 ⟨⟨he, rfl⟩ | ⟨he, rfl⟩, hb⟩
          · exact ⟨false, rfl, by simp; intro h; exact absurd h hll, hb⟩
          · exact ⟨false, rfl, by simp; intro h; exact absurd h hll, hb⟩
end Go.Proofs.YtchadlbhdcpojaaGreatDoor
