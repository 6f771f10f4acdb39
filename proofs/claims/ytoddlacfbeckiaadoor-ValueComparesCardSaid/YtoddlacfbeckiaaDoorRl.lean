/- The program's order of items. -/
import Derived.Test.YtoddlacfbeckiaaDoorRk
namespace Go.Proofs.YtoddlacfbeckiaaDoor
open Go.RowKit

def OrderSaid (f : FuncId) (N : Nat) : Prop := ∀ (x y : V) (w : World) (A K : Option Addr) (c d : Nat) (A' K' : Option Addr) (c' d' : Nat), x.nodes ≤ N → x.ok = true → y.ok = true → Lies w w.heap.size x A c K d → Lies w w.heap.size y A' c' K' d' →
      Calls Tryd.prog f #[.agg #[.int .i64 x.kind, .int .i64 x.int, .string x.text, .slice A x.items.length c, .slice K x.keys.length d], .agg #[.int .i64 y.kind, .int .i64 y.int, .string y.text, .slice A' y.items.length c', .slice K' y.keys.length d']] w fun e w' => e = .returned (.int .i64 (x.cmp y)) ∧ Below w.heap.size w w'

set_option maxRecDepth 100000 in
set_option maxHeartbeats 2000000 in
theorem orderItems_of (N : Nat) (H : OrderSaid 42 N) (k i k' i' : Int) (t t' : ByteArray) (l l' : List V) (ks ks' : List ByteArray) (w : World) (A K : Option Addr) (c d : Nat) (A' K' : Option Addr) (c' d' : Nat)
    (hN : V.nodesL l ≤ N) (hok : V.okL l = true) (hok' : V.okL l' = true) (hk5 : k = 5 → ks.length = l.length ∧ ks'.length = l'.length) (h : Lies w w.heap.size (.mk k i t l ks) A c K d) (h' : Lies w w.heap.size (.mk k' i' t' l' ks') A' c' K' d') :
    Calls Tryd.prog 58 #[.agg #[.int .i64 k, .int .i64 i, .string t, .slice A l.length c, .slice K ks.length d], .agg #[.int .i64 k', .int .i64 i', .string t', .slice A' l'.length c', .slice K' ks'.length d']] w fun e w' => e = .returned (.int .i64 (V.cmpL (k == 5) l ks l' ks')) ∧ Below w.heap.size w w' := by
  rw [← cmpAt_zero]
  obtain ⟨n, hn⟩ : ∃ n, n = l.length := ⟨_, rfl⟩
  obtain ⟨n', hn'⟩ : ∃ n, n = l'.length := ⟨_, rfl⟩
  obtain ⟨m, hm⟩ : ∃ n, n = ks.length := ⟨_, rfl⟩
  obtain ⟨m', hm'⟩ : ∃ n, n = ks'.length := ⟨_, rfl⟩
  have hlen : n ≤ 9223372036854775807 := by have := h.items.1; have := h.items.2.1; unfold maxLen at *; omega
  have hlen' : n' ≤ 9223372036854775807 := by have := h'.items.1; have := h'.items.2.1; unfold maxLen at *; omega
  have HH := Lib.hid H
  have HL := Lib.hid h
  have HL' := Lib.hid h'
  have HN1 := Lib.hid hn
  have HN2 := Lib.hid hn'
  have HM1 := Lib.hid hm
  have HM2 := Lib.hid hm'
  have HO := Lib.hid hok
  have HO' := Lib.hid hok'
  have H5 := Lib.hid hk5
  rw [← hn, ← hn', ← hm, ← hm']
  clear H h h' hn hn' hm hm' hok hok' hk5
  by_cases hlt0 : n' < n
  · go_enter Tryd.func58, Tryd.ntmps58
    go_wp2_with fail
    go_loopw [14] (fun j wr => ∃ q : Nat, q ≤ n' ∧ j = .int .i64 q ∧ Hid (cmpAt (k == 5) l ks l' ks' q = cmpAt (k == 5) l ks l' ks' 0) ∧ Hid (Below (w.heap.size + 2) ((w.alloc (.cells #[.int .i64 k, .int .i64 i, .string t, .slice A n c, .slice K m d] 25)).alloc (.cells #[.int .i64 k', .int .i64 i', .string t', .slice A' n' c', .slice K' m' d'] 25)) wr)) (fun j _ => n' - (intOf j).toNat)
    case atStart => exact ⟨0, Nat.zero_le _, rfl, Lib.hid rfl, Lib.hid (Below.refl _ _)⟩
    case round =>
      obtain ⟨q, hq, rfl, HA, HW⟩ := hrel
      have hz := box2z HW.out
      have q0 : wr.cell? ⟨w.heap.size, 0, none⟩ = some (.int .i64 k) := box2a HW.out 0
      have q3 : wr.cell? ⟨w.heap.size, 3, none⟩ = some (.slice A n c) := box2a HW.out 3
      have q4 : wr.cell? ⟨w.heap.size, 4, none⟩ = some (.slice K m d) := box2a HW.out 4
      have q3' : wr.cell? ⟨w.heap.size + 1, 3, none⟩ = some (.slice A' n' c') := box2b HW.out 3
      have q4' : wr.cell? ⟨w.heap.size + 1, 4, none⟩ = some (.slice K' m' d') := box2b HW.out 4
      by_cases hlt : q < n'
      · have hlt1 : q < l.length := by have := HN1.out; omega
        have hlt2 : q < l'.length := by have := HN2.out; omega
        obtain ⟨b, o, rfl, hb1, hc1⟩ := (HL.out.items.keep (w' := wr) (bcell (box2 HW.out)) (B' := wr.heap.size) (by omega)).at_ (k := q) hlt1
        obtain ⟨b', o', rfl, hb2, hc2⟩ := (HL'.out.items.keep (w' := wr) (bcell (box2 HW.out)) (B' := wr.heap.size) (by omega)).at_ (k := q) hlt2
        obtain ⟨x, hx⟩ : ∃ x, l[q]? = some x := ⟨_, List.getElem?_eq_getElem hlt1⟩
        obtain ⟨y, hy⟩ : ∃ y, l'[q]? = some y := ⟨_, List.getElem?_eq_getElem hlt2⟩
        obtain ⟨Ax, cx, Kx, dx, e0, e1, e2, e3, e4, hlx⟩ := hc1.at_ hx
        obtain ⟨Ay, cy, Ky, dy, f0, f1, f2, f3, f4, hly⟩ := hc2.at_ hy
        have hxn : x.nodes ≤ N := by have := V.nodes_mem (List.mem_of_getElem? hx); omega
        have HC0 := fun W (hW : Below wr.heap.size wr W) => HH.out x y W Ax Kx cx dx Ay Ky cy dy hxn (V.okL_mem HO.out (List.mem_of_getElem? hx)) (V.okL_mem HO'.out (List.mem_of_getElem? hy)) (Lies.keep (bcell hW) hW.size _ hlx) (Lies.keep (bcell hW) hW.size _ hly)
        obtain ⟨r, hr⟩ : ∃ r, r = x.cmp y := ⟨_, rfl⟩
        rw [← hr] at HC0
        have HC := Lib.hid HC0
        have HR := Lib.hid hr
        have HX := Lib.hid hx
        have HY := Lib.hid hy
        have h0 : 0 ≤ (q : Int) := by omega
        have h1 : (q : Int) < n := by omega
        have h1' : (q : Int) < n' := by omega
        clear hc1 hc2 hx hy hlx hly hxn HC0 hr
        by_cases h5 : k = 5
        · subst h5
          obtain ⟨hk1, hk2⟩ := H5.out rfl
          obtain ⟨p, u, rfl, hb4, hs1⟩ := (HL.out.keys.keep (w' := wr) (bcell (box2 HW.out)) (B' := wr.heap.size) (by omega)).at_ (k := q) (by omega)
          obtain ⟨p', u', rfl, hb5, hs2⟩ := (HL'.out.keys.keep (w' := wr) (bcell (box2 HW.out)) (B' := wr.heap.size) (by omega)).at_ (k := q) (by omega)
          obtain ⟨s, hs⟩ : ∃ s, ks[q]? = some s := ⟨_, List.getElem?_eq_getElem (by omega)⟩
          obtain ⟨s', hs'⟩ : ∃ s, ks'[q]? = some s := ⟨_, List.getElem?_eq_getElem (by omega)⟩
          have g1 := (hs1 q s hs).1
          have g2 := (hs2 q s' hs').1
          have h2 : (q : Int) < m := by have := HM1.out; omega
          have h2' : (q : Int) < m' := by have := HM2.out; omega
          have HS := Lib.hid hs
          have HS' := Lib.hid hs'
          clear hk1 hk2 hs1 hs2 hs hs' hlt1 hlt2
          cases he : s.toList == s'.toList
          · have HE := Lib.hid he
            go_wp2_with fail
            go_quiet (fail)
            go_wp2_with fail
            go_quiet ((go_at_call 57; exact calm_again (fun W => cmpStr_any _ _ W) _ _ _))
            go_wp2_with fail
            go_ret
            go_light
            exact ⟨ret_int (by rw [← HA.out, cmpAt_key (o := ((5 : Int) == 5)) HX.out HY.out HS.out HS'.out (by decide) HE.out]), below_drewN (below_drewN (box2 HW.out) _) _⟩
          · have HE := Lib.hid he
            go_wp2_with fail
            go_quiet (fail)
            go_wp2_with fail
            go_region_held3 (fun W => Hid (Below wr.heap.size wr W) ∧ (W.cell? ⟨w.heap.size, 3, none⟩ = some (.slice (some ⟨b, o, none⟩) n c) ∧ W.cell? ⟨w.heap.size + 1, 3, none⟩ = some (.slice (some ⟨b', o', none⟩) n' c')) ∧
                (W.cell? ⟨b, o + q * 5, none⟩ = some (.int .i64 x.kind) ∧ W.cell? ⟨b, o + q * 5 + 1, none⟩ = some (.int .i64 x.int) ∧ W.cell? ⟨b, o + q * 5 + 2, none⟩ = some (.string x.text) ∧ W.cell? ⟨b, o + q * 5 + 3, none⟩ = some (.slice Ax x.items.length cx) ∧ W.cell? ⟨b, o + q * 5 + 4, none⟩ = some (.slice Kx x.keys.length dx)) ∧
                (W.cell? ⟨b', o' + q * 5, none⟩ = some (.int .i64 y.kind) ∧ W.cell? ⟨b', o' + q * 5 + 1, none⟩ = some (.int .i64 y.int) ∧ W.cell? ⟨b', o' + q * 5 + 2, none⟩ = some (.string y.text) ∧ W.cell? ⟨b', o' + q * 5 + 3, none⟩ = some (.slice Ay y.items.length cy) ∧ W.cell? ⟨b', o' + q * 5 + 4, none⟩ = some (.slice Ky y.keys.length dy)))
              (first
                | (exact ⟨Lib.hid (Below.drew (below_drewN (Below.refl _ _) _)), ⟨q3, q3'⟩, ⟨e0, e1, e2, e3, e4⟩, f0, f1, f2, f3, f4⟩)
                | (go_split_ands
                   have hB := keepB (by assumption) hb3
                   exact ⟨Lib.hid hB, ⟨(bcell hB _ _ (by omega)).trans q3, (bcell hB _ _ (by omega)).trans q3'⟩, ⟨(bcell hB _ _ hb1).trans e0, (bcell hB _ _ hb1).trans e1, (bcell hB _ _ hb1).trans e2, (bcell hB _ _ hb1).trans e3, (bcell hB _ _ hb1).trans e4⟩,
                     (bcell hB _ _ hb2).trans f0, (bcell hB _ _ hb2).trans f1, (bcell hB _ _ hb2).trans f2, (bcell hB _ _ hb2).trans f3, (bcell hB _ _ hb2).trans f4⟩))
              (first
                | (go_at_call 42; refine (HC.out _ ?_).mono ?_; (go_split_ands; exact Hid.out (by assumption)); rintro e w1 ⟨rfl, hb3⟩))
            go_split_ands
            have HB3 : Hid (Below wr.heap.size wr w1) := by assumption
            clear hb3
            by_cases hr0 : r = 0
            · subst hr0
              go_wp2_with fail
              go_roundw
              case rel => exact ⟨q + 1, by omega, by go_num, Lib.hid (by rw [← HA.out, cmpAt_next HX.out HY.out (fun _ => ⟨s, s', HS.out, HS'.out, HE.out⟩), ← HR.out]; rfl), Lib.hid (HW.out.trans (HB3.out.mono hz))⟩
              case measure => simp [intOf]; omega
            · have hr1 : (r != 0) = true := by simpa using hr0
              have HR0 := Lib.hid hr0
              clear hr0
              go_wp2_with fail
              go_ret
              go_light
              exact ⟨ret_int (by rw [← HA.out, cmpAt_next HX.out HY.out (fun _ => ⟨s, s', HS.out, HS'.out, HE.out⟩), ← HR.out, if_neg HR0.out]), (box2 HW.out).trans (HB3.out.mono (by omega))⟩

        · have hk5 : (k == 5) = false := by simpa using h5
          have HK5 := Lib.hid h5
          clear h5 hlt1 hlt2
          go_wp2_with fail
          go_quiet (fail)
          go_wp2_with fail
          go_region_held3 (fun W => Hid (Below wr.heap.size wr W) ∧ (W.cell? ⟨w.heap.size, 3, none⟩ = some (.slice (some ⟨b, o, none⟩) n c) ∧ W.cell? ⟨w.heap.size + 1, 3, none⟩ = some (.slice (some ⟨b', o', none⟩) n' c')) ∧
              (W.cell? ⟨b, o + q * 5, none⟩ = some (.int .i64 x.kind) ∧ W.cell? ⟨b, o + q * 5 + 1, none⟩ = some (.int .i64 x.int) ∧ W.cell? ⟨b, o + q * 5 + 2, none⟩ = some (.string x.text) ∧ W.cell? ⟨b, o + q * 5 + 3, none⟩ = some (.slice Ax x.items.length cx) ∧ W.cell? ⟨b, o + q * 5 + 4, none⟩ = some (.slice Kx x.keys.length dx)) ∧
              (W.cell? ⟨b', o' + q * 5, none⟩ = some (.int .i64 y.kind) ∧ W.cell? ⟨b', o' + q * 5 + 1, none⟩ = some (.int .i64 y.int) ∧ W.cell? ⟨b', o' + q * 5 + 2, none⟩ = some (.string y.text) ∧ W.cell? ⟨b', o' + q * 5 + 3, none⟩ = some (.slice Ay y.items.length cy) ∧ W.cell? ⟨b', o' + q * 5 + 4, none⟩ = some (.slice Ky y.keys.length dy)))
            (first
              | (exact ⟨Lib.hid (Below.drew (below_drewN (Below.refl _ _) _)), ⟨q3, q3'⟩, ⟨e0, e1, e2, e3, e4⟩, f0, f1, f2, f3, f4⟩)
              | (go_split_ands
                 have hB := keepB (by assumption) hb3
                 exact ⟨Lib.hid hB, ⟨(bcell hB _ _ (by omega)).trans q3, (bcell hB _ _ (by omega)).trans q3'⟩, ⟨(bcell hB _ _ hb1).trans e0, (bcell hB _ _ hb1).trans e1, (bcell hB _ _ hb1).trans e2, (bcell hB _ _ hb1).trans e3, (bcell hB _ _ hb1).trans e4⟩,
                   (bcell hB _ _ hb2).trans f0, (bcell hB _ _ hb2).trans f1, (bcell hB _ _ hb2).trans f2, (bcell hB _ _ hb2).trans f3, (bcell hB _ _ hb2).trans f4⟩))
            (first
              | (go_at_call 42; refine (HC.out _ ?_).mono ?_; (go_split_ands; exact Hid.out (by assumption)); rintro e w1 ⟨rfl, hb3⟩))
          go_split_ands
          have HB3 : Hid (Below wr.heap.size wr w1) := by assumption
          clear hb3
          by_cases hr0 : r = 0
          · subst hr0
            go_wp2_with fail
            go_roundw
            case rel => exact ⟨q + 1, by omega, by go_num, Lib.hid (by rw [← HA.out, cmpAt_next HX.out HY.out (fun h => absurd (by simpa using h) HK5.out), ← HR.out]; rfl), Lib.hid (HW.out.trans (HB3.out.mono hz))⟩
            case measure => simp [intOf]; omega
          · have hr1 : (r != 0) = true := by simpa using hr0
            have HR0 := Lib.hid hr0
            clear hr0
            go_wp2_with fail
            go_ret
            go_light
            exact ⟨ret_int (by rw [← HA.out, cmpAt_next HX.out HY.out (fun h => absurd (by simpa using h) HK5.out), ← HR.out, if_neg HR0.out]), (box2 HW.out).trans (HB3.out.mono (by omega))⟩

      · go_wp2_with fail
        refine (cmpInt_any _ _ _).mono ?_
        rintro e w1 ⟨rfl, rfl⟩
        go_wp2_with fail
        go_ret
        go_light
        exact ⟨ret_int (by rw [← HA.out, cmpAt_end (by have := HN1.out; have := HN2.out; omega) (by have := HN1.out; omega) (by have := HN2.out; omega), HN1.out, HN2.out]), box2 HW.out⟩
  · go_enter Tryd.func58, Tryd.ntmps58
    go_wp2_with fail
    go_loopw [14] (fun j wr => ∃ q : Nat, q ≤ n ∧ j = .int .i64 q ∧ Hid (cmpAt (k == 5) l ks l' ks' q = cmpAt (k == 5) l ks l' ks' 0) ∧ Hid (Below (w.heap.size + 2) ((w.alloc (.cells #[.int .i64 k, .int .i64 i, .string t, .slice A n c, .slice K m d] 25)).alloc (.cells #[.int .i64 k', .int .i64 i', .string t', .slice A' n' c', .slice K' m' d'] 25)) wr)) (fun j _ => n - (intOf j).toNat)
    case atStart => exact ⟨0, Nat.zero_le _, rfl, Lib.hid rfl, Lib.hid (Below.refl _ _)⟩
    case round =>
      obtain ⟨q, hq, rfl, HA, HW⟩ := hrel
      have hz := box2z HW.out
      have q0 : wr.cell? ⟨w.heap.size, 0, none⟩ = some (.int .i64 k) := box2a HW.out 0
      have q3 : wr.cell? ⟨w.heap.size, 3, none⟩ = some (.slice A n c) := box2a HW.out 3
      have q4 : wr.cell? ⟨w.heap.size, 4, none⟩ = some (.slice K m d) := box2a HW.out 4
      have q3' : wr.cell? ⟨w.heap.size + 1, 3, none⟩ = some (.slice A' n' c') := box2b HW.out 3
      have q4' : wr.cell? ⟨w.heap.size + 1, 4, none⟩ = some (.slice K' m' d') := box2b HW.out 4
      by_cases hlt : q < n
      · have hlt1 : q < l.length := by have := HN1.out; omega
        have hlt2 : q < l'.length := by have := HN2.out; omega
        obtain ⟨b, o, rfl, hb1, hc1⟩ := (HL.out.items.keep (w' := wr) (bcell (box2 HW.out)) (B' := wr.heap.size) (by omega)).at_ (k := q) hlt1
        obtain ⟨b', o', rfl, hb2, hc2⟩ := (HL'.out.items.keep (w' := wr) (bcell (box2 HW.out)) (B' := wr.heap.size) (by omega)).at_ (k := q) hlt2
        obtain ⟨x, hx⟩ : ∃ x, l[q]? = some x := ⟨_, List.getElem?_eq_getElem hlt1⟩
        obtain ⟨y, hy⟩ : ∃ y, l'[q]? = some y := ⟨_, List.getElem?_eq_getElem hlt2⟩
        obtain ⟨Ax, cx, Kx, dx, e0, e1, e2, e3, e4, hlx⟩ := hc1.at_ hx
        obtain ⟨Ay, cy, Ky, dy, f0, f1, f2, f3, f4, hly⟩ := hc2.at_ hy
        have hxn : x.nodes ≤ N := by have := V.nodes_mem (List.mem_of_getElem? hx); omega
        have HC0 := fun W (hW : Below wr.heap.size wr W) => HH.out x y W Ax Kx cx dx Ay Ky cy dy hxn (V.okL_mem HO.out (List.mem_of_getElem? hx)) (V.okL_mem HO'.out (List.mem_of_getElem? hy)) (Lies.keep (bcell hW) hW.size _ hlx) (Lies.keep (bcell hW) hW.size _ hly)
        obtain ⟨r, hr⟩ : ∃ r, r = x.cmp y := ⟨_, rfl⟩
        rw [← hr] at HC0
        have HC := Lib.hid HC0
        have HR := Lib.hid hr
        have HX := Lib.hid hx
        have HY := Lib.hid hy
        have h0 : 0 ≤ (q : Int) := by omega
        have h1 : (q : Int) < n := by omega
        have h1' : (q : Int) < n' := by omega
        clear hc1 hc2 hx hy hlx hly hxn HC0 hr
        by_cases h5 : k = 5
        · subst h5
          obtain ⟨hk1, hk2⟩ := H5.out rfl
          obtain ⟨p, u, rfl, hb4, hs1⟩ := (HL.out.keys.keep (w' := wr) (bcell (box2 HW.out)) (B' := wr.heap.size) (by omega)).at_ (k := q) (by omega)
          obtain ⟨p', u', rfl, hb5, hs2⟩ := (HL'.out.keys.keep (w' := wr) (bcell (box2 HW.out)) (B' := wr.heap.size) (by omega)).at_ (k := q) (by omega)
          obtain ⟨s, hs⟩ : ∃ s, ks[q]? = some s := ⟨_, List.getElem?_eq_getElem (by omega)⟩
          obtain ⟨s', hs'⟩ : ∃ s, ks'[q]? = some s := ⟨_, List.getElem?_eq_getElem (by omega)⟩
          have g1 := (hs1 q s hs).1
          have g2 := (hs2 q s' hs').1
          have h2 : (q : Int) < m := by have := HM1.out; omega
          have h2' : (q : Int) < m' := by have := HM2.out; omega
          have HS := Lib.hid hs
          have HS' := Lib.hid hs'
          clear hk1 hk2 hs1 hs2 hs hs' hlt1 hlt2
          cases he : s.toList == s'.toList
          · have HE := Lib.hid he
            go_wp2_with fail
            go_quiet (fail)
            go_wp2_with fail
            go_quiet ((go_at_call 57; exact calm_again (fun W => cmpStr_any _ _ W) _ _ _))
            go_wp2_with fail
            go_ret
            go_light
            exact ⟨ret_int (by rw [← HA.out, cmpAt_key (o := ((5 : Int) == 5)) HX.out HY.out HS.out HS'.out (by decide) HE.out]), below_drewN (below_drewN (box2 HW.out) _) _⟩
          · have HE := Lib.hid he
            go_wp2_with fail
            go_quiet (fail)
            go_wp2_with fail
            go_region_held3 (fun W => Hid (Below wr.heap.size wr W) ∧ (W.cell? ⟨w.heap.size, 3, none⟩ = some (.slice (some ⟨b, o, none⟩) n c) ∧ W.cell? ⟨w.heap.size + 1, 3, none⟩ = some (.slice (some ⟨b', o', none⟩) n' c')) ∧
                (W.cell? ⟨b, o + q * 5, none⟩ = some (.int .i64 x.kind) ∧ W.cell? ⟨b, o + q * 5 + 1, none⟩ = some (.int .i64 x.int) ∧ W.cell? ⟨b, o + q * 5 + 2, none⟩ = some (.string x.text) ∧ W.cell? ⟨b, o + q * 5 + 3, none⟩ = some (.slice Ax x.items.length cx) ∧ W.cell? ⟨b, o + q * 5 + 4, none⟩ = some (.slice Kx x.keys.length dx)) ∧
                (W.cell? ⟨b', o' + q * 5, none⟩ = some (.int .i64 y.kind) ∧ W.cell? ⟨b', o' + q * 5 + 1, none⟩ = some (.int .i64 y.int) ∧ W.cell? ⟨b', o' + q * 5 + 2, none⟩ = some (.string y.text) ∧ W.cell? ⟨b', o' + q * 5 + 3, none⟩ = some (.slice Ay y.items.length cy) ∧ W.cell? ⟨b', o' + q * 5 + 4, none⟩ = some (.slice Ky y.keys.length dy)))
              (first
                | (exact ⟨Lib.hid (Below.drew (below_drewN (Below.refl _ _) _)), ⟨q3, q3'⟩, ⟨e0, e1, e2, e3, e4⟩, f0, f1, f2, f3, f4⟩)
                | (go_split_ands
                   have hB := keepB (by assumption) hb3
                   exact ⟨Lib.hid hB, ⟨(bcell hB _ _ (by omega)).trans q3, (bcell hB _ _ (by omega)).trans q3'⟩, ⟨(bcell hB _ _ hb1).trans e0, (bcell hB _ _ hb1).trans e1, (bcell hB _ _ hb1).trans e2, (bcell hB _ _ hb1).trans e3, (bcell hB _ _ hb1).trans e4⟩,
                     (bcell hB _ _ hb2).trans f0, (bcell hB _ _ hb2).trans f1, (bcell hB _ _ hb2).trans f2, (bcell hB _ _ hb2).trans f3, (bcell hB _ _ hb2).trans f4⟩))
              (first
                | (go_at_call 42; refine (HC.out _ ?_).mono ?_; (go_split_ands; exact Hid.out (by assumption)); rintro e w1 ⟨rfl, hb3⟩))
            go_split_ands
            have HB3 : Hid (Below wr.heap.size wr w1) := by assumption
            clear hb3
            by_cases hr0 : r = 0
            · subst hr0
              go_wp2_with fail
              go_roundw
              case rel => exact ⟨q + 1, by omega, by go_num, Lib.hid (by rw [← HA.out, cmpAt_next HX.out HY.out (fun _ => ⟨s, s', HS.out, HS'.out, HE.out⟩), ← HR.out]; rfl), Lib.hid (HW.out.trans (HB3.out.mono hz))⟩
              case measure => simp [intOf]; omega
            · have hr1 : (r != 0) = true := by simpa using hr0
              have HR0 := Lib.hid hr0
              clear hr0
              go_wp2_with fail
              go_ret
              go_light
              exact ⟨ret_int (by rw [← HA.out, cmpAt_next HX.out HY.out (fun _ => ⟨s, s', HS.out, HS'.out, HE.out⟩), ← HR.out, if_neg HR0.out]), (box2 HW.out).trans (HB3.out.mono (by omega))⟩

        · have hk5 : (k == 5) = false := by simpa using h5
          have HK5 := Lib.hid h5
          clear h5 hlt1 hlt2
          go_wp2_with fail
          go_quiet (fail)
          go_wp2_with fail
          go_region_held3 (fun W => Hid (Below wr.heap.size wr W) ∧ (W.cell? ⟨w.heap.size, 3, none⟩ = some (.slice (some ⟨b, o, none⟩) n c) ∧ W.cell? ⟨w.heap.size + 1, 3, none⟩ = some (.slice (some ⟨b', o', none⟩) n' c')) ∧
              (W.cell? ⟨b, o + q * 5, none⟩ = some (.int .i64 x.kind) ∧ W.cell? ⟨b, o + q * 5 + 1, none⟩ = some (.int .i64 x.int) ∧ W.cell? ⟨b, o + q * 5 + 2, none⟩ = some (.string x.text) ∧ W.cell? ⟨b, o + q * 5 + 3, none⟩ = some (.slice Ax x.items.length cx) ∧ W.cell? ⟨b, o + q * 5 + 4, none⟩ = some (.slice Kx x.keys.length dx)) ∧
              (W.cell? ⟨b', o' + q * 5, none⟩ = some (.int .i64 y.kind) ∧ W.cell? ⟨b', o' + q * 5 + 1, none⟩ = some (.int .i64 y.int) ∧ W.cell? ⟨b', o' + q * 5 + 2, none⟩ = some (.string y.text) ∧ W.cell? ⟨b', o' + q * 5 + 3, none⟩ = some (.slice Ay y.items.length cy) ∧ W.cell? ⟨b', o' + q * 5 + 4, none⟩ = some (.slice Ky y.keys.length dy)))
            (first
              | (exact ⟨Lib.hid (Below.drew (below_drewN (Below.refl _ _) _)), ⟨q3, q3'⟩, ⟨e0, e1, e2, e3, e4⟩, f0, f1, f2, f3, f4⟩)
              | (go_split_ands
                 have hB := keepB (by assumption) hb3
                 exact ⟨Lib.hid hB, ⟨(bcell hB _ _ (by omega)).trans q3, (bcell hB _ _ (by omega)).trans q3'⟩, ⟨(bcell hB _ _ hb1).trans e0, (bcell hB _ _ hb1).trans e1, (bcell hB _ _ hb1).trans e2, (bcell hB _ _ hb1).trans e3, (bcell hB _ _ hb1).trans e4⟩,
                   (bcell hB _ _ hb2).trans f0, (bcell hB _ _ hb2).trans f1, (bcell hB _ _ hb2).trans f2, (bcell hB _ _ hb2).trans f3, (bcell hB _ _ hb2).trans f4⟩))
            (first
              | (go_at_call 42; refine (HC.out _ ?_).mono ?_; (go_split_ands; exact Hid.out (by assumption)); rintro e w1 ⟨rfl, hb3⟩))
          go_split_ands
          have HB3 : Hid (Below wr.heap.size wr w1) := by assumption
          clear hb3
          by_cases hr0 : r = 0
          · subst hr0
            go_wp2_with fail
            go_roundw
            case rel => exact ⟨q + 1, by omega, by go_num, Lib.hid (by rw [← HA.out, cmpAt_next HX.out HY.out (fun h => absurd (by simpa using h) HK5.out), ← HR.out]; rfl), Lib.hid (HW.out.trans (HB3.out.mono hz))⟩
            case measure => simp [intOf]; omega
          · have hr1 : (r != 0) = true := by simpa using hr0
            have HR0 := Lib.hid hr0
            clear hr0
            go_wp2_with fail
            go_ret
            go_light
            exact ⟨ret_int (by rw [← HA.out, cmpAt_next HX.out HY.out (fun h => absurd (by simpa using h) HK5.out), ← HR.out, if_neg HR0.out]), (box2 HW.out).trans (HB3.out.mono (by omega))⟩

      · go_wp2_with fail
        refine (cmpInt_any _ _ _).mono ?_
        rintro e w1 ⟨rfl, rfl⟩
        go_wp2_with fail
        go_ret
        go_light
        exact ⟨ret_int (by rw [← HA.out, cmpAt_end (by have := HN1.out; have := HN2.out; omega) (by have := HN1.out; omega) (by have := HN2.out; omega), HN1.out, HN2.out]), box2 HW.out⟩
end Go.Proofs.YtoddlacfbeckiaaDoor
