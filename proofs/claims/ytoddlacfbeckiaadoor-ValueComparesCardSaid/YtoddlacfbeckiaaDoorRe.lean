/- The definitions' Same. -/
import Derived.Test.YtoddlacfbeckiaaDoorRd
namespace Go.Proofs.YtoddlacfbeckiaaDoor
open Go.RowKit

def SamePost (p : Prop) (w : World) (e : Ending) (w' : World) : Prop := ∃ b : Bool, e = .returned (.bool b) ∧ (b = true ↔ p) ∧ Below w.heap.size w w'

theorem keep10 {w0 wx w1 : World} {n b o b' o' : Nat} {v0 v1 v2 v3 v4 u0 u1 u2 u3 u4 : Value}
    (h : ((b < wx.heap.size ∧ b' < wx.heap.size ∧ n ≤ wx.heap.size) ∧ Hid (Below n w0 wx)) ∧
      (wx.cell? ⟨b, o, none⟩ = some v0 ∧ wx.cell? ⟨b, o + 1, none⟩ = some v1 ∧ wx.cell? ⟨b, o + 2, none⟩ = some v2 ∧ wx.cell? ⟨b, o + 3, none⟩ = some v3 ∧ wx.cell? ⟨b, o + 4, none⟩ = some v4) ∧
      (wx.cell? ⟨b', o', none⟩ = some u0 ∧ wx.cell? ⟨b', o' + 1, none⟩ = some u1 ∧ wx.cell? ⟨b', o' + 2, none⟩ = some u2 ∧ wx.cell? ⟨b', o' + 3, none⟩ = some u3 ∧ wx.cell? ⟨b', o' + 4, none⟩ = some u4))
    (hb : Below wx.heap.size wx w1) :
    ((b < w1.heap.size ∧ b' < w1.heap.size ∧ n ≤ w1.heap.size) ∧ Hid (Below n w0 w1)) ∧
      (w1.cell? ⟨b, o, none⟩ = some v0 ∧ w1.cell? ⟨b, o + 1, none⟩ = some v1 ∧ w1.cell? ⟨b, o + 2, none⟩ = some v2 ∧ w1.cell? ⟨b, o + 3, none⟩ = some v3 ∧ w1.cell? ⟨b, o + 4, none⟩ = some v4) ∧
      (w1.cell? ⟨b', o', none⟩ = some u0 ∧ w1.cell? ⟨b', o' + 1, none⟩ = some u1 ∧ w1.cell? ⟨b', o' + 2, none⟩ = some u2 ∧ w1.cell? ⟨b', o' + 3, none⟩ = some u3 ∧ w1.cell? ⟨b', o' + 4, none⟩ = some u4) := by
  obtain ⟨⟨⟨h1, h2, h3⟩, h4⟩, ⟨c0, c1, c2, c3, c4⟩, d0, d1, d2, d3, d4⟩ := h
  have hk := bcell hb
  have hs := hb.size
  exact ⟨⟨⟨by omega, by omega, by omega⟩, h4.out.trans (hb.mono (by omega))⟩, ⟨(hk _ _ h1).trans c0, (hk _ _ h1).trans c1, (hk _ _ h1).trans c2, (hk _ _ h1).trans c3, (hk _ _ h1).trans c4⟩,
    (hk _ _ h2).trans d0, (hk _ _ h2).trans d1, (hk _ _ h2).trans d2, (hk _ _ h2).trans d3, (hk _ _ h2).trans d4⟩

theorem take_eq_succ {α : Type} {l l' : List α} {k : Nat} {x y : α} (hx : l[k]? = some x) (hy : l'[k]? = some y) : l.take (k + 1) = l'.take (k + 1) ↔ l.take k = l'.take k ∧ x = y := by
  have e1 : l.take (k + 1) = l.take k ++ [x] := by rw [List.take_add_one, hx]; rfl
  have e2 : l'.take (k + 1) = l'.take k ++ [y] := by rw [List.take_add_one, hy]; rfl
  rw [e1, e2]
  constructor
  · intro h
    have h1 : k < l.length := (List.getElem?_eq_some_iff.1 hx).1
    have h2 : k < l'.length := (List.getElem?_eq_some_iff.1 hy).1
    have := List.append_inj h (by simp; omega)
    exact ⟨this.1, by simpa using this.2⟩
  · rintro ⟨h, rfl⟩; rw [h]

set_option maxRecDepth 100000 in
set_option maxHeartbeats 1000000 in
theorem sameL_of (N : Nat) (H : ∀ (x y : V) (w : World) (A K : Option Addr) (c d : Nat) (A' K' : Option Addr) (c' d' : Nat), x.nodes ≤ N → Lies w w.heap.size x A c K d → Lies w w.heap.size y A' c' K' d' →
      Calls Tryd.prog 20 #[.agg #[.int .i64 x.kind, .int .i64 x.int, .string x.text, .slice A x.items.length c, .slice K x.keys.length d], .agg #[.int .i64 y.kind, .int .i64 y.int, .string y.text, .slice A' y.items.length c', .slice K' y.keys.length d']] w (SamePost (x = y) w))
    (l l' : List V) (w : World) (A A' : Option Addr) (c c' : Nat) (hN : V.nodesL l ≤ N) (h : LiesL w w.heap.size A c l) (h' : LiesL w w.heap.size A' c' l') :
    Calls Tryd.prog 39 #[.slice A l.length c, .slice A' l'.length c'] w (SamePost (l = l') w) := by
  obtain ⟨n, hn⟩ : ∃ n, n = l.length := ⟨_, rfl⟩
  obtain ⟨m, hm⟩ : ∃ m, m = l'.length := ⟨_, rfl⟩
  have hlen : n ≤ 9223372036854775807 := by have := h.1; have := h.2.1; unfold maxLen at *; omega
  have HL := Lib.hid h
  have HL' := Lib.hid h'
  have HH := Lib.hid H
  have HN := Lib.hid hn
  have HM := Lib.hid hm
  rw [← hn, ← hm]
  clear h h' H hn hm
  by_cases hnm : n = m
  · subst hnm
    go_enter Tryd.func39, Tryd.ntmps39
    go_wp2_with fail
    go_loopw [5] (fun j wr => ∃ k : Nat, k ≤ n ∧ j = .int .i64 k ∧ Hid (l.take k = l'.take k) ∧ Hid (Below w.heap.size w wr)) (fun j _ => n - (intOf j).toNat)
    case atStart => exact ⟨0, Nat.zero_le _, rfl, Lib.hid (by simp), Lib.hid (Below.refl _ _)⟩
    case round =>
      obtain ⟨k, hk, rfl, HA, HW⟩ := hrel
      by_cases hlt : k < n
      · have hlt1 : k < l.length := by rw [← HN.out]; exact hlt
        have hlt2 : k < l'.length := by rw [← HM.out]; exact hlt
        have hk1 := HL.out.keep (w' := wr) (bcell HW.out) (HW.out.size)
        have hk2 := HL'.out.keep (w' := wr) (bcell HW.out) (HW.out.size)
        obtain ⟨b, o, rfl, hb1, hf1⟩ := hk1.at_ (k := k) hlt1
        obtain ⟨b', o', rfl, hb2, hf2⟩ := hk2.at_ (k := k) hlt2
        obtain ⟨x, hx⟩ : ∃ x, l[k]? = some x := ⟨_, List.getElem?_eq_getElem hlt1⟩
        obtain ⟨y, hy⟩ : ∃ y, l'[k]? = some y := ⟨_, List.getElem?_eq_getElem hlt2⟩
        obtain ⟨Ax, cx, Kx, dx, e0, e1, e2, e3, e4, hlx⟩ := hf1.at_ hx
        obtain ⟨Ay, cy, Ky, dy, q0, q1, q2, q3, q4, hly⟩ := hf2.at_ hy
        have hxn : x.nodes ≤ N := by have := V.nodes_mem (List.mem_of_getElem? hx); omega
        have HC := Lib.hid fun W (hW : Below wr.heap.size wr W) => HH.out x y W Ax Kx cx dx Ay Ky cy dy hxn (Lies.keep (bcell hW) hW.size _ hlx) (Lies.keep (bcell hW) hW.size _ hly)
        have HX := Lib.hid hx
        have HY := Lib.hid hy
        have hz := HW.out.size
        have h0 : 0 ≤ (k : Int) := by omega
        have h1 : (k : Int) < n := by omega
        clear hlt1 hlt2 hk1 hk2 hf1 hf2 hx hy hlx hly hxn
        go_wp2_with fail
        go_region_held3 (fun W => ((b < W.heap.size ∧ b' < W.heap.size ∧ wr.heap.size ≤ W.heap.size) ∧ Hid (Below wr.heap.size wr W)) ∧
            (W.cell? ⟨b, o + k * 5, none⟩ = some (.int .i64 x.kind) ∧ W.cell? ⟨b, o + k * 5 + 1, none⟩ = some (.int .i64 x.int) ∧ W.cell? ⟨b, o + k * 5 + 2, none⟩ = some (.string x.text) ∧ W.cell? ⟨b, o + k * 5 + 3, none⟩ = some (.slice Ax x.items.length cx) ∧ W.cell? ⟨b, o + k * 5 + 4, none⟩ = some (.slice Kx x.keys.length dx)) ∧
            (W.cell? ⟨b', o' + k * 5, none⟩ = some (.int .i64 y.kind) ∧ W.cell? ⟨b', o' + k * 5 + 1, none⟩ = some (.int .i64 y.int) ∧ W.cell? ⟨b', o' + k * 5 + 2, none⟩ = some (.string y.text) ∧ W.cell? ⟨b', o' + k * 5 + 3, none⟩ = some (.slice Ay y.items.length cy) ∧ W.cell? ⟨b', o' + k * 5 + 4, none⟩ = some (.slice Ky y.keys.length dy)))
          (first
            | (exact ⟨⟨⟨hb1, hb2, Nat.le_refl _⟩, Lib.hid (Below.drew (Below.refl _ _))⟩, ⟨e0, e1, e2, e3, e4⟩, q0, q1, q2, q3, q4⟩)
            | (exact keep10 (by assumption) hb3))
          (first
            | (go_at_call 20; refine (HC.out _ ?_).mono ?_; (go_split_ands; exact Hid.out (by assumption)); rintro e w1 ⟨r, rfl, hr, hb3⟩))
        have HB := Lib.hid hb3
        have HR := Lib.hid hr
        clear hb3 hr
        cases r
        · go_wp2_with fail
          go_ret
          go_light
          refine ⟨false, rfl, ?_, HW.out.trans ((Below.drew (Below.refl _ _)).trans (HB.out.mono (Nat.le_refl _)) |>.mono hz)⟩
          have hne := HR.out
          simp at hne
          simp
          rintro rfl
          have := (take_eq_succ HX.out HY.out).1 rfl
          exact hne this.2
        · go_wp2_with fail
          go_roundw
          case rel => exact ⟨k + 1, by omega, by go_num, Lib.hid ((take_eq_succ HX.out HY.out).2 ⟨HA.out, HR.out.1 rfl⟩), Lib.hid (HW.out.trans ((Below.drew (Below.refl _ _)).trans (HB.out.mono (Nat.le_refl _)) |>.mono hz))⟩
          case measure => simp [intOf]; omega
      · go_wp2_with fail
        go_ret
        go_light
        exact ⟨true, rfl, by simpa using (by have := HA.out; rwa [List.take_of_length_le (by have := HN.out; omega), List.take_of_length_le (by have := HM.out; omega)] at this), HW.out⟩
  · have hne : ((n : Int) != (m : Int)) = true := by rw [bne_iff_ne]; omega
    go_enter Tryd.func39, Tryd.ntmps39
    go_wp2_with fail
    go_ret
    go_light
    exact ⟨false, rfl, by simp; rintro rfl; exact hnm (HN.out.trans HM.out.symm), Below.refl _ _⟩
end Go.Proofs.YtoddlacfbeckiaaDoor
