/- Three small comparisons; two boxed values. -/
import Derived.Test.YtchadlbhdcpojaaGreatDoorPa
import Derived.Test.YtchadlbhdcpojaaGreatDoorRd
namespace Go.Proofs.YtchadlbhdcpojaaGreatDoor
open Go.RowKit

set_option maxHeartbeats 400000 in
theorem cmpInt_any (a b : Int) (w : World) :
    Calls Tryz.prog 69 #[.int .i64 a, .int .i64 b] w fun e w' => e = .returned (.int .i64 (cmpI a b)) ∧ w' = w := by
  rcases (by omega : a < b ∨ ¬ a < b ∧ b < a ∨ ¬ a < b ∧ ¬ b < a) with h | ⟨h, h'⟩ | ⟨h, h'⟩
  · rw [cmpI, if_pos h]
    go_enter Tryz.func69, Tryz.ntmps69
    go_wp2
    go_ret
    exact ⟨rfl, rfl⟩
  · rw [cmpI, if_neg h, if_pos h']
    go_enter Tryz.func69, Tryz.ntmps69
    go_wp2
    go_ret
    exact ⟨rfl, rfl⟩
  · rw [cmpI, if_neg h, if_neg h']
    go_enter Tryz.func69, Tryz.ntmps69
    go_wp2
    go_ret
    exact ⟨rfl, rfl⟩
set_option maxHeartbeats 400000 in
theorem cmpStr_any (a b : ByteArray) (w : World) :
    Calls Tryz.prog 70 #[.string a, .string b] w fun e w' => e = .returned (.int .i64 (cmpS a b)) ∧ w' = w := by
  unfold cmpS ltB
  cases h1 : Op.bytesLess a.toList b.toList
  all_goals cases h2 : a.toList == b.toList
  all_goals go_enter Tryz.func70, Tryz.ntmps70
  all_goals go_wp2
  all_goals go_ret
  all_goals exact ⟨rfl, rfl⟩
theorem box2a {w wr : World} {cs cs' : Array Value} {t t' : TypeId} (h : Below (w.heap.size + 2) ((w.alloc (.cells cs t)).alloc (.cells cs' t')) wr) (j : Nat) : wr.cell? ⟨w.heap.size, j, none⟩ = cs[j]? :=
  (bcell h w.heap.size j (by omega)).trans (by simp [go_sem])
theorem box2b {w wr : World} {cs cs' : Array Value} {t t' : TypeId} (h : Below (w.heap.size + 2) ((w.alloc (.cells cs t)).alloc (.cells cs' t')) wr) (j : Nat) : wr.cell? ⟨w.heap.size + 1, j, none⟩ = cs'[j]? :=
  (bcell h (w.heap.size + 1) j (by omega)).trans (by simp [go_sem])
theorem box2all {w wr : World} {a0 a1 a2 a3 a4 b0 b1 b2 b3 b4 : Value} {t t' : TypeId} (h : Below (w.heap.size + 2) ((w.alloc (.cells #[a0, a1, a2, a3, a4] t)).alloc (.cells #[b0, b1, b2, b3, b4] t')) wr) :
    wr.cell? ⟨w.heap.size, 0, none⟩ = some a0 ∧ wr.cell? ⟨w.heap.size, 1, none⟩ = some a1 ∧ wr.cell? ⟨w.heap.size, 2, none⟩ = some a2 ∧ wr.cell? ⟨w.heap.size, 3, none⟩ = some a3 ∧ wr.cell? ⟨w.heap.size, 4, none⟩ = some a4 ∧
    wr.cell? ⟨w.heap.size + 1, 0, none⟩ = some b0 ∧ wr.cell? ⟨w.heap.size + 1, 1, none⟩ = some b1 ∧ wr.cell? ⟨w.heap.size + 1, 2, none⟩ = some b2 ∧ wr.cell? ⟨w.heap.size + 1, 3, none⟩ = some b3 ∧ wr.cell? ⟨w.heap.size + 1, 4, none⟩ = some b4 :=
  ⟨box2a h 0, box2a h 1, box2a h 2, box2a h 3, box2a h 4, box2b h 0, box2b h 1, box2b h 2, box2b h 3, box2b h 4⟩
/-- A call that leaves the world alone, met a second time within drawn orders. -/
theorem calm_again {P : Program} {f : FuncId} {args : Array Value} {v : Value} (h : ∀ W : World, Calls P f args W fun e w' => e = .returned v ∧ w' = W) (w : World) (a n : Nat) :
    Calls P f args (w.drewN (a + n)) fun e w' => e = .returned v ∧ ∃ m, w' = w.drewN (a + m) := by
  refine (h _).mono ?_
  rintro e w' ⟨he, rfl⟩
  exact ⟨he, n, rfl⟩
theorem box2z {w wr : World} {o o' : Obj} (h : Below (w.heap.size + 2) ((w.alloc o).alloc o') wr) : w.heap.size + 2 ≤ wr.heap.size := by
  have := h.size; simp only [World.size_alloc] at this; omega
end Go.Proofs.YtchadlbhdcpojaaGreatDoor
/- The program's order of items. -/
namespace Go.Proofs.YtchadlbhdcpojaaGreatDoor
open Go.RowKit

/-- As Below; and no draw was taken back. -/
structure BelowD (B : Nat) (w w' : World) : Prop where
  below : Below B w w'
  drawn : w.drawn ≤ w'.drawn
theorem BelowD.refl (B : Nat) (w : World) : BelowD B w w := ⟨Below.refl B w, Nat.le_refl _⟩
theorem BelowD.trans {B : Nat} {a b c : World} (h : BelowD B a b) (k : BelowD B b c) : BelowD B a c := ⟨h.below.trans k.below, Nat.le_trans h.drawn k.drawn⟩
theorem BelowD.mono {B B' : Nat} {w w' : World} (h : BelowD B w w') (hB : B' ≤ B) : BelowD B' w w' := ⟨h.below.mono hB, h.drawn⟩
theorem BelowD.size {B : Nat} {w w' : World} (h : BelowD B w w') : w.heap.size ≤ w'.heap.size := h.below.size
theorem BelowD.alloc {B : Nat} {a w : World} (h : BelowD B a w) (hB : B ≤ w.heap.size) (o : Obj) : BelowD B a (w.alloc o) := ⟨h.below.alloc hB o, h.drawn⟩
theorem BelowD.drew {B : Nat} {a w : World} (h : BelowD B a w) : BelowD B a w.drew := ⟨h.below.drew, Nat.le_trans h.drawn (Nat.le_succ _)⟩
theorem belowD_drewN {a b : World} {B : Nat} (h : BelowD B a b) (n : Nat) : BelowD B a (b.drewN n) := ⟨below_drewN h.below n, Nat.le_trans h.drawn (Nat.le_add_right _ _)⟩
theorem bcellD {W w1 : World} {B : Nat} (hb : BelowD B W w1) : ∀ b o, b < B → w1.cell? ⟨b, o, none⟩ = W.cell? ⟨b, o, none⟩ := bcell hb.below
theorem box2aD {w wr : World} {cs cs' : Array Value} {t t' : TypeId} (h : BelowD (w.heap.size + 2) ((w.alloc (.cells cs t)).alloc (.cells cs' t')) wr) (j : Nat) : wr.cell? ⟨w.heap.size, j, none⟩ = cs[j]? := box2a h.below j
theorem box2bD {w wr : World} {cs cs' : Array Value} {t t' : TypeId} (h : BelowD (w.heap.size + 2) ((w.alloc (.cells cs t)).alloc (.cells cs' t')) wr) (j : Nat) : wr.cell? ⟨w.heap.size + 1, j, none⟩ = cs'[j]? := box2b h.below j
theorem box2D {w wr : World} {o o' : Obj} (h : BelowD (w.heap.size + 2) ((w.alloc o).alloc o') wr) : BelowD w.heap.size w wr :=
  (((BelowD.refl _ _).alloc (Nat.le_refl _) _).alloc (by simp) _).trans (h.mono (by omega))
theorem keepBD {wr wx w1 : World} (h : Hid (BelowD wr.heap.size wr wx)) (hb : BelowD wx.heap.size wx w1) : BelowD wr.heap.size wr w1 := h.out.trans (hb.mono h.out.size)
theorem box2zD {w wr : World} {o o' : Obj} (h : BelowD (w.heap.size + 2) ((w.alloc o).alloc o') wr) : w.heap.size + 2 ≤ wr.heap.size := box2z h.below

def OrderSaid (f : FuncId) (N : Nat) : Prop := ∀ (x y : V) (w : World) (A K : Option Addr) (c d : Nat) (A' K' : Option Addr) (c' d' : Nat), x.nodes ≤ N → x.ok = true → y.ok = true → Lies w w.heap.size x A c K d → Lies w w.heap.size y A' c' K' d' →
      Calls Tryz.prog f #[.agg #[.int .i64 x.kind, .int .i64 x.int, .string x.text, .slice A x.items.length c, .slice K x.keys.length d], .agg #[.int .i64 y.kind, .int .i64 y.int, .string y.text, .slice A' y.items.length c', .slice K' y.keys.length d']] w fun e w' => e = .returned (.int .i64 (x.cmp y)) ∧ Below w.heap.size w w'

def OrderSaidD (f : FuncId) (N : Nat) : Prop := ∀ (x y : V) (w : World) (A K : Option Addr) (c d : Nat) (A' K' : Option Addr) (c' d' : Nat), x.nodes ≤ N → x.ok = true → y.ok = true → Lies w w.heap.size x A c K d → Lies w w.heap.size y A' c' K' d' →
      Calls Tryz.prog f #[.agg #[.int .i64 x.kind, .int .i64 x.int, .string x.text, .slice A x.items.length c, .slice K x.keys.length d], .agg #[.int .i64 y.kind, .int .i64 y.int, .string y.text, .slice A' y.items.length c', .slice K' y.keys.length d']] w fun e w' => e = .returned (.int .i64 (x.cmp y)) ∧ BelowD w.heap.size w w'

set_option maxRecDepth 100000 in
set_option maxHeartbeats 2000000 in
theorem orderItems_ofD (N : Nat) (H : OrderSaidD 86 N) (k i k' i' : Int) (t t' : ByteArray) (l l' : List V) (ks ks' : List ByteArray) (w : World) (A K : Option Addr) (c d : Nat) (A' K' : Option Addr) (c' d' : Nat)
    (hN : V.nodesL l ≤ N) (hok : V.okL l = true) (hok' : V.okL l' = true) (hk5 : k = 5 → ks.length = l.length ∧ ks'.length = l'.length) (h : Lies w w.heap.size (.mk k i t l ks) A c K d) (h' : Lies w w.heap.size (.mk k' i' t' l' ks') A' c' K' d') :
    Calls Tryz.prog 96 #[.agg #[.int .i64 k, .int .i64 i, .string t, .slice A l.length c, .slice K ks.length d], .agg #[.int .i64 k', .int .i64 i', .string t', .slice A' l'.length c', .slice K' ks'.length d']] w fun e w' => e = .returned (.int .i64 (V.cmpL (k == 5) l ks l' ks')) ∧ BelowD w.heap.size w w' := by
  rw [← cmpAt_zero]
  obtain ⟨n, hn⟩ : ∃ n, n = l.length := ⟨_, rfl⟩
  obtain ⟨n', hn'⟩ : ∃ n, n = l'.length := ⟨_, rfl⟩
  obtain ⟨m, hm⟩ : ∃ n, n = ks.length := ⟨_, rfl⟩
  obtain ⟨m', hm'⟩ : ∃ n, n = ks'.length := ⟨_, rfl⟩
  have hlen : n ≤ 9223372036854775807 := by have := h.items.1; have := h.items.2.1; unfold maxLen at *; omega
  have hlen' : n' ≤ 9223372036854775807 := by have := h'.items.1; have := h'.items.2.1; unfold maxLen at *; omega
  have HH := Lib.hid H
  have HL := Lib.hid h
  have HL' := Lib.hid h'
  have HN1 := Lib.hid hn
  have HN2 := Lib.hid hn'
  have HM1 := Lib.hid hm
  have HM2 := Lib.hid hm'
  have HO := Lib.hid hok
  have HO' := Lib.hid hok'
  have H5 := Lib.hid hk5
  rw [← hn, ← hn', ← hm, ← hm']
  clear H h h' hn hn' hm hm' hok hok' hk5
  by_cases hlt0 : n' < n
  · go_enter Tryz.func96, Tryz.ntmps96
    go_wp2_with fail
    go_loopw [14] (fun j wr => ∃ q : Nat, q ≤ n' ∧ j = .int .i64 q ∧ Hid (cmpAt (k == 5) l ks l' ks' q = cmpAt (k == 5) l ks l' ks' 0) ∧ Hid (BelowD (w.heap.size + 2) ((w.alloc (.cells #[.int .i64 k, .int .i64 i, .string t, .slice A n c, .slice K m d] 27)).alloc (.cells #[.int .i64 k', .int .i64 i', .string t', .slice A' n' c', .slice K' m' d'] 27)) wr)) (fun j _ => n' - (intOf j).toNat)
    case atStart => exact ⟨0, Nat.zero_le _, rfl, Lib.hid rfl, Lib.hid (BelowD.refl _ _)⟩
    case round =>
      obtain ⟨q, hq, rfl, HA, HW⟩ := hrel
      have hz := box2zD HW.out
      have q0 : wr.cell? ⟨w.heap.size, 0, none⟩ = some (.int .i64 k) := box2aD HW.out 0
      have q3 : wr.cell? ⟨w.heap.size, 3, none⟩ = some (.slice A n c) := box2aD HW.out 3
      have q4 : wr.cell? ⟨w.heap.size, 4, none⟩ = some (.slice K m d) := box2aD HW.out 4
      have q3' : wr.cell? ⟨w.heap.size + 1, 3, none⟩ = some (.slice A' n' c') := box2bD HW.out 3
      have q4' : wr.cell? ⟨w.heap.size + 1, 4, none⟩ = some (.slice K' m' d') := box2bD HW.out 4
      by_cases hlt : q < n'
      · have hlt1 : q < l.length := by have := HN1.out; omega
        have hlt2 : q < l'.length := by have := HN2.out; omega
        obtain ⟨b, o, rfl, hb1, hc1⟩ := (HL.out.items.keep (w' := wr) (bcellD (box2D HW.out)) (B' := wr.heap.size) (by omega)).at_ (k := q) hlt1
        obtain ⟨b', o', rfl, hb2, hc2⟩ := (HL'.out.items.keep (w' := wr) (bcellD (box2D HW.out)) (B' := wr.heap.size) (by omega)).at_ (k := q) hlt2
        obtain ⟨x, hx⟩ : ∃ x, l[q]? = some x := ⟨_, List.getElem?_eq_getElem hlt1⟩
        obtain ⟨y, hy⟩ : ∃ y, l'[q]? = some y := ⟨_, List.getElem?_eq_getElem hlt2⟩
        obtain ⟨Ax, cx, Kx, dx, e0, e1, e2, e3, e4, hlx⟩ := hc1.at_ hx
        obtain ⟨Ay, cy, Ky, dy, f0, f1, f2, f3, f4, hly⟩ := hc2.at_ hy
        have hxn : x.nodes ≤ N := by have := V.nodes_mem (List.mem_of_getElem? hx); omega
        have HC0 := fun W (hW : BelowD wr.heap.size wr W) => HH.out x y W Ax Kx cx dx Ay Ky cy dy hxn (V.okL_mem HO.out (List.mem_of_getElem? hx)) (V.okL_mem HO'.out (List.mem_of_getElem? hy)) (Lies.keep (bcellD hW) hW.size _ hlx) (Lies.keep (bcellD hW) hW.size _ hly)
        obtain ⟨r, hr⟩ : ∃ r, r = x.cmp y := ⟨_, rfl⟩
        rw [← hr] at HC0
        have HC := Lib.hid HC0
        have HR := Lib.hid hr
        have HX := Lib.hid hx
        have HY := Lib.hid hy
        have h0 : 0 ≤ (q : Int) := by omega
        have h1 : (q : Int) < n := by omega
        have h1' : (q : Int) < n' := by omega
        clear hc1 hc2 hx hy hlx hly hxn HC0 hr
        by_cases h5 : k = 5
        · subst h5
          obtain ⟨hk1, hk2⟩ := H5.out rfl
          obtain ⟨p, u, rfl, hb4, hs1⟩ := (HL.out.keys.keep (w' := wr) (bcellD (box2D HW.out)) (B' := wr.heap.size) (by omega)).at_ (k := q) (by omega)
          obtain ⟨p', u', rfl, hb5, hs2⟩ := (HL'.out.keys.keep (w' := wr) (bcellD (box2D HW.out)) (B' := wr.heap.size) (by omega)).at_ (k := q) (by omega)
          obtain ⟨s, hs⟩ : ∃ s, ks[q]? = some s := ⟨_, List.getElem?_eq_getElem (by omega)⟩
          obtain ⟨s', hs'⟩ : ∃ s, ks'[q]? = some s := ⟨_, List.getElem?_eq_getElem (by omega)⟩
          have g1 := (hs1 q s hs).1
          have g2 := (hs2 q s' hs').1
          have h2 : (q : Int) < m := by have := HM1.out; omega
          have h2' : (q : Int) < m' := by have := HM2.out; omega
          have HS := Lib.hid hs
          have HS' := Lib.hid hs'
          clear hk1 hk2 hs1 hs2 hs hs' hlt1 hlt2
          cases he : s.toList == s'.toList
          · have HE := Lib.hid he
            go_wp2_with fail
            go_quiet (fail)
            go_wp2_with fail
            go_quiet ((go_at_call 70; exact calm_again (fun W => cmpStr_any _ _ W) _ _ _))
            go_wp2_with fail
            go_ret
            go_light
            exact ⟨ret_int (by rw [← HA.out, cmpAt_key (o := ((5 : Int) == 5)) HX.out HY.out HS.out HS'.out (by decide) HE.out]), belowD_drewN (belowD_drewN (box2D HW.out) _) _⟩
          · have HE := Lib.hid he
            go_wp2_with fail
            go_quiet (fail)
            go_wp2_with fail
            go_region_held3 (fun W => Hid (BelowD wr.heap.size wr W) ∧ (W.cell? ⟨w.heap.size, 3, none⟩ = some (.slice (some ⟨b, o, none⟩) n c) ∧ W.cell? ⟨w.heap.size + 1, 3, none⟩ = some (.slice (some ⟨b', o', none⟩) n' c')) ∧
                (W.cell? ⟨b, o + q * 5, none⟩ = some (.int .i64 x.kind) ∧ W.cell? ⟨b, o + q * 5 + 1, none⟩ = some (.int .i64 x.int) ∧ W.cell? ⟨b, o + q * 5 + 2, none⟩ = some (.string x.text) ∧ W.cell? ⟨b, o + q * 5 + 3, none⟩ = some (.slice Ax x.items.length cx) ∧ W.cell? ⟨b, o + q * 5 + 4, none⟩ = some (.slice Kx x.keys.length dx)) ∧
                (W.cell? ⟨b', o' + q * 5, none⟩ = some (.int .i64 y.kind) ∧ W.cell? ⟨b', o' + q * 5 + 1, none⟩ = some (.int .i64 y.int) ∧ W.cell? ⟨b', o' + q * 5 + 2, none⟩ = some (.string y.text) ∧ W.cell? ⟨b', o' + q * 5 + 3, none⟩ = some (.slice Ay y.items.length cy) ∧ W.cell? ⟨b', o' + q * 5 + 4, none⟩ = some (.slice Ky y.keys.length dy)))
              (first
                | (exact ⟨Lib.hid (BelowD.drew (belowD_drewN (BelowD.refl _ _) _)), ⟨q3, q3'⟩, ⟨e0, e1, e2, e3, e4⟩, f0, f1, f2, f3, f4⟩)
                | (go_split_ands
                   have hB := keepBD (by assumption) hb3
                   exact ⟨Lib.hid hB, ⟨(bcellD hB _ _ (by omega)).trans q3, (bcellD hB _ _ (by omega)).trans q3'⟩, ⟨(bcellD hB _ _ hb1).trans e0, (bcellD hB _ _ hb1).trans e1, (bcellD hB _ _ hb1).trans e2, (bcellD hB _ _ hb1).trans e3, (bcellD hB _ _ hb1).trans e4⟩,
                     (bcellD hB _ _ hb2).trans f0, (bcellD hB _ _ hb2).trans f1, (bcellD hB _ _ hb2).trans f2, (bcellD hB _ _ hb2).trans f3, (bcellD hB _ _ hb2).trans f4⟩))
              (first
                | (go_at_call 86; refine (HC.out _ ?_).mono ?_; (go_split_ands; exact Hid.out (by assumption)); rintro e w1 ⟨rfl, hb3⟩))
            go_split_ands
            have HB3 : Hid (BelowD wr.heap.size wr w1) := by assumption
            clear hb3
            by_cases hr0 : r = 0
            · subst hr0
              go_wp2_with fail
              go_roundw
              case rel => exact ⟨q + 1, by omega, by go_num, Lib.hid (by rw [← HA.out, cmpAt_next HX.out HY.out (fun _ => ⟨s, s', HS.out, HS'.out, HE.out⟩), ← HR.out]; rfl), Lib.hid (HW.out.trans (HB3.out.mono hz))⟩
              case measure => simp [intOf]; omega
            · have hr1 : (r != 0) = true := by simpa using hr0
              have HR0 := Lib.hid hr0
              clear hr0
              go_wp2_with fail
              go_ret
              go_light
              exact ⟨ret_int (by rw [← HA.out, cmpAt_next HX.out HY.out (fun _ => ⟨s, s', HS.out, HS'.out, HE.out⟩), ← HR.out, if_neg HR0.out]), (box2D HW.out).trans (HB3.out.mono (by omega))⟩

        · have hk5 : (k == 5) = false := by simpa using h5
          have HK5 := Lib.hid h5
          clear h5 hlt1 hlt2
          go_wp2_with fail
          go_quiet (fail)
          go_wp2_with fail
          go_region_held3 (fun W => Hid (BelowD wr.heap.size wr W) ∧ (W.cell? ⟨w.heap.size, 3, none⟩ = some (.slice (some ⟨b, o, none⟩) n c) ∧ W.cell? ⟨w.heap.size + 1, 3, none⟩ = some (.slice (some ⟨b', o', none⟩) n' c')) ∧
              (W.cell? ⟨b, o + q * 5, none⟩ = some (.int .i64 x.kind) ∧ W.cell? ⟨b, o + q * 5 + 1, none⟩ = some (.int .i64 x.int) ∧ W.cell? ⟨b, o + q * 5 + 2, none⟩ = some (.string x.text) ∧ W.cell? ⟨b, o + q * 5 + 3, none⟩ = some (.slice Ax x.items.length cx) ∧ W.cell? ⟨b, o + q * 5 + 4, none⟩ = some (.slice Kx x.keys.length dx)) ∧
              (W.cell? ⟨b', o' + q * 5, none⟩ = some (.int .i64 y.kind) ∧ W.cell? ⟨b', o' + q * 5 + 1, none⟩ = some (.int .i64 y.int) ∧ W.cell? ⟨b', o' + q * 5 + 2, none⟩ = some (.string y.text) ∧ W.cell? ⟨b', o' + q * 5 + 3, none⟩ = some (.slice Ay y.items.length cy) ∧ W.cell? ⟨b', o' + q * 5 + 4, none⟩ = some (.slice Ky y.keys.length dy)))
            (first
              | (exact ⟨Lib.hid (BelowD.drew (belowD_drewN (BelowD.refl _ _) _)), ⟨q3, q3'⟩, ⟨e0, e1, e2, e3, e4⟩, f0, f1, f2, f3, f4⟩)
              | (go_split_ands
                 have hB := keepBD (by assumption) hb3
                 exact ⟨Lib.hid hB, ⟨(bcellD hB _ _ (by omega)).trans q3, (bcellD hB _ _ (by omega)).trans q3'⟩, ⟨(bcellD hB _ _ hb1).trans e0, (bcellD hB _ _ hb1).trans e1, (bcellD hB _ _ hb1).trans e2, (bcellD hB _ _ hb1).trans e3, (bcellD hB _ _ hb1).trans e4⟩,
                   (bcellD hB _ _ hb2).trans f0, (bcellD hB _ _ hb2).trans f1, (bcellD hB _ _ hb2).trans f2, (bcellD hB _ _ hb2).trans f3, (bcellD hB _ _ hb2).trans f4⟩))
            (first
              | (go_at_call 86; refine (HC.out _ ?_).mono ?_; (go_split_ands; exact Hid.out (by assumption)); rintro e w1 ⟨rfl, hb3⟩))
          go_split_ands
          have HB3 : Hid (BelowD wr.heap.size wr w1) := by assumption
          clear hb3
          by_cases hr0 : r = 0
          · subst hr0
            go_wp2_with fail
            go_roundw
            case rel => exact ⟨q + 1, by omega, by go_num, Lib.hid (by rw [← HA.out, cmpAt_next HX.out HY.out (fun h => absurd (by simpa using h) HK5.out), ← HR.out]; rfl), Lib.hid (HW.out.trans (HB3.out.mono hz))⟩
            case measure => simp [intOf]; omega
          · have hr1 : (r != 0) = true := by simpa using hr0
            have HR0 := Lib.hid hr0
            clear hr0
            go_wp2_with fail
            go_ret
            go_light
            exact ⟨ret_int (by rw [← HA.out, cmpAt_next HX.out HY.out (fun h => absurd (by simpa using h) HK5.out), ← HR.out, if_neg HR0.out]), (box2D HW.out).trans (HB3.out.mono (by omega))⟩

      · go_wp2_with fail
        refine (cmpInt_any _ _ _).mono ?_
        rintro e w1 ⟨rfl, rfl⟩
        go_wp2_with fail
        go_ret
        go_light
        exact ⟨ret_int (by rw [← HA.out, cmpAt_end (by have := HN1.out; have := HN2.out; omega) (by have := HN1.out; omega) (by have := HN2.out; omega), HN1.out, HN2.out]), box2D HW.out⟩
  · go_enter Tryz.func96, Tryz.ntmps96
    go_wp2_with fail
    go_loopw [14] (fun j wr => ∃ q : Nat, q ≤ n ∧ j = .int .i64 q ∧ Hid (cmpAt (k == 5) l ks l' ks' q = cmpAt (k == 5) l ks l' ks' 0) ∧ Hid (BelowD (w.heap.size + 2) ((w.alloc (.cells #[.int .i64 k, .int .i64 i, .string t, .slice A n c, .slice K m d] 27)).alloc (.cells #[.int .i64 k', .int .i64 i', .string t', .slice A' n' c', .slice K' m' d'] 27)) wr)) (fun j _ => n - (intOf j).toNat)
    case atStart => exact ⟨0, Nat.zero_le _, rfl, Lib.hid rfl, Lib.hid (BelowD.refl _ _)⟩
    case round =>
      obtain ⟨q, hq, rfl, HA, HW⟩ := hrel
      have hz := box2zD HW.out
      have q0 : wr.cell? ⟨w.heap.size, 0, none⟩ = some (.int .i64 k) := box2aD HW.out 0
      have q3 : wr.cell? ⟨w.heap.size, 3, none⟩ = some (.slice A n c) := box2aD HW.out 3
      have q4 : wr.cell? ⟨w.heap.size, 4, none⟩ = some (.slice K m d) := box2aD HW.out 4
      have q3' : wr.cell? ⟨w.heap.size + 1, 3, none⟩ = some (.slice A' n' c') := box2bD HW.out 3
      have q4' : wr.cell? ⟨w.heap.size + 1, 4, none⟩ = some (.slice K' m' d') := box2bD HW.out 4
      by_cases hlt : q < n
      · have hlt1 : q < l.length := by have := HN1.out; omega
        have hlt2 : q < l'.length := by have := HN2.out; omega
        obtain ⟨b, o, rfl, hb1, hc1⟩ := (HL.out.items.keep (w' := wr) (bcellD (box2D HW.out)) (B' := wr.heap.size) (by omega)).at_ (k := q) hlt1
        obtain ⟨b', o', rfl, hb2, hc2⟩ := (HL'.out.items.keep (w' := wr) (bcellD (box2D HW.out)) (B' := wr.heap.size) (by omega)).at_ (k := q) hlt2
        obtain ⟨x, hx⟩ : ∃ x, l[q]? = some x := ⟨_, List.getElem?_eq_getElem hlt1⟩
        obtain ⟨y, hy⟩ : ∃ y, l'[q]? = some y := ⟨_, List.getElem?_eq_getElem hlt2⟩
        obtain ⟨Ax, cx, Kx, dx, e0, e1, e2, e3, e4, hlx⟩ := hc1.at_ hx
        obtain ⟨Ay, cy, Ky, dy, f0, f1, f2, f3, f4, hly⟩ := hc2.at_ hy
        have hxn : x.nodes ≤ N := by have := V.nodes_mem (List.mem_of_getElem? hx); omega
        have HC0 := fun W (hW : BelowD wr.heap.size wr W) => HH.out x y W Ax Kx cx dx Ay Ky cy dy hxn (V.okL_mem HO.out (List.mem_of_getElem? hx)) (V.okL_mem HO'.out (List.mem_of_getElem? hy)) (Lies.keep (bcellD hW) hW.size _ hlx) (Lies.keep (bcellD hW) hW.size _ hly)
        obtain ⟨r, hr⟩ : ∃ r, r = x.cmp y := ⟨_, rfl⟩
        rw [← hr] at HC0
        have HC := Lib.hid HC0
        have HR := Lib.hid hr
        have HX := Lib.hid hx
        have HY := Lib.hid hy
        have h0 : 0 ≤ (q : Int) := by omega
        have h1 : (q : Int) < n := by omega
        have h1' : (q : Int) < n' := by omega
        clear hc1 hc2 hx hy hlx hly hxn HC0 hr
        by_cases h5 : k = 5
        · subst h5
          obtain ⟨hk1, hk2⟩ := H5.out rfl
          obtain ⟨p, u, rfl, hb4, hs1⟩ := (HL.out.keys.keep (w' := wr) (bcellD (box2D HW.out)) (B' := wr.heap.size) (by omega)).at_ (k := q) (by omega)
          obtain ⟨p', u', rfl, hb5, hs2⟩ := (HL'.out.keys.keep (w' := wr) (bcellD (box2D HW.out)) (B' := wr.heap.size) (by omega)).at_ (k := q) (by omega)
          obtain ⟨s, hs⟩ : ∃ s, ks[q]? = some s := ⟨_, List.getElem?_eq_getElem (by omega)⟩
          obtain ⟨s', hs'⟩ : ∃ s, ks'[q]? = some s := ⟨_, List.getElem?_eq_getElem (by omega)⟩
          have g1 := (hs1 q s hs).1
          have g2 := (hs2 q s' hs').1
          have h2 : (q : Int) < m := by have := HM1.out; omega
          have h2' : (q : Int) < m' := by have := HM2.out; omega
          have HS := Lib.hid hs
          have HS' := Lib.hid hs'
          clear hk1 hk2 hs1 hs2 hs hs' hlt1 hlt2
          cases he : s.toList == s'.toList
          · have HE := Lib.hid he
            go_wp2_with fail
            go_quiet (fail)
            go_wp2_with fail
            go_quiet ((go_at_call 70; exact calm_again (fun W => cmpStr_any _ _ W) _ _ _))
            go_wp2_with fail
            go_ret
            go_light
            exact ⟨ret_int (by rw [← HA.out, cmpAt_key (o := ((5 : Int) == 5)) HX.out HY.out HS.out HS'.out (by decide) HE.out]), belowD_drewN (belowD_drewN (box2D HW.out) _) _⟩
          · have HE := Lib.hid he
            go_wp2_with fail
            go_quiet (fail)
            go_wp2_with fail
            go_region_held3 (fun W => Hid (BelowD wr.heap.size wr W) ∧ (W.cell? ⟨w.heap.size, 3, none⟩ = some (.slice (some ⟨b, o, none⟩) n c) ∧ W.cell? ⟨w.heap.size + 1, 3, none⟩ = some (.slice (some ⟨b', o', none⟩) n' c')) ∧
                (W.cell? ⟨b, o + q * 5, none⟩ = some (.int .i64 x.kind) ∧ W.cell? ⟨b, o + q * 5 + 1, none⟩ = some (.int .i64 x.int) ∧ W.cell? ⟨b, o + q * 5 + 2, none⟩ = some (.string x.text) ∧ W.cell? ⟨b, o + q * 5 + 3, none⟩ = some (.slice Ax x.items.length cx) ∧ W.cell? ⟨b, o + q * 5 + 4, none⟩ = some (.slice Kx x.keys.length dx)) ∧
                (W.cell? ⟨b', o' + q * 5, none⟩ = some (.int .i64 y.kind) ∧ W.cell? ⟨b', o' + q * 5 + 1, none⟩ = some (.int .i64 y.int) ∧ W.cell? ⟨b', o' + q * 5 + 2, none⟩ = some (.string y.text) ∧ W.cell? ⟨b', o' + q * 5 + 3, none⟩ = some (.slice Ay y.items.length cy) ∧ W.cell? ⟨b', o' + q * 5 + 4, none⟩ = some (.slice Ky y.keys.length dy)))
              (first
                | (exact ⟨Lib.hid (BelowD.drew (belowD_drewN (BelowD.refl _ _) _)), ⟨q3, q3'⟩, ⟨e0, e1, e2, e3, e4⟩, f0, f1, f2, f3, f4⟩)
                | (go_split_ands
                   have hB := keepBD (by assumption) hb3
                   exact ⟨Lib.hid hB, ⟨(bcellD hB _ _ (by omega)).trans q3, (bcellD hB _ _ (by omega)).trans q3'⟩, ⟨(bcellD hB _ _ hb1).trans e0, (bcellD hB _ _ hb1).trans e1, (bcellD hB _ _ hb1).trans e2, (bcellD hB _ _ hb1).trans e3, (bcellD hB _ _ hb1).trans e4⟩,
                     (bcellD hB _ _ hb2).trans f0, (bcellD hB _ _ hb2).trans f1, (bcellD hB _ _ hb2).trans f2, (bcellD hB _ _ hb2).trans f3, (bcellD hB _ _ hb2).trans f4⟩))
              (first
                | (go_at_call 86; refine (HC.out _ ?_).mono ?_; (go_split_ands; exact Hid.out (by assumption)); rintro e w1 ⟨rfl, hb3⟩))
            go_split_ands
            have HB3 : Hid (BelowD wr.heap.size wr w1) := by assumption
            clear hb3
            by_cases hr0 : r = 0
            · subst hr0
              go_wp2_with fail
              go_roundw
              case rel => exact ⟨q + 1, by omega, by go_num, Lib.hid (by rw [← HA.out, cmpAt_next HX.out HY.out (fun _ => ⟨s, s', HS.out, HS'.out, HE.out⟩), ← HR.out]; rfl), Lib.hid (HW.out.trans (HB3.out.mono hz))⟩
              case measure => simp [intOf]; omega
            · have hr1 : (r != 0) = true := by simpa using hr0
              have HR0 := Lib.hid hr0
              clear hr0
              go_wp2_with fail
              go_ret
              go_light
              exact ⟨ret_int (by rw [← HA.out, cmpAt_next HX.out HY.out (fun _ => ⟨s, s', HS.out, HS'.out, HE.out⟩), ← HR.out, if_neg HR0.out]), (box2D HW.out).trans (HB3.out.mono (by omega))⟩

        · have hk5 : (k == 5) = false := by simpa using h5
          have HK5 := Lib.hid h5
          clear h5 hlt1 hlt2
          go_wp2_with fail
          go_quiet (fail)
          go_wp2_with fail
          go_region_held3 (fun W => Hid (BelowD wr.heap.size wr W) ∧ (W.cell? ⟨w.heap.size, 3, none⟩ = some (.slice (some ⟨b, o, none⟩) n c) ∧ W.cell? ⟨w.heap.size + 1, 3, none⟩ = some (.slice (some ⟨b', o', none⟩) n' c')) ∧
              (W.cell? ⟨b, o + q * 5, none⟩ = some (.int .i64 x.kind) ∧ W.cell? ⟨b, o + q * 5 + 1, none⟩ = some (.int .i64 x.int) ∧ W.cell? ⟨b, o + q * 5 + 2, none⟩ = some (.string x.text) ∧ W.cell? ⟨b, o + q * 5 + 3, none⟩ = some (.slice Ax x.items.length cx) ∧ W.cell? ⟨b, o + q * 5 + 4, none⟩ = some (.slice Kx x.keys.length dx)) ∧
              (W.cell? ⟨b', o' + q * 5, none⟩ = some (.int .i64 y.kind) ∧ W.cell? ⟨b', o' + q * 5 + 1, none⟩ = some (.int .i64 y.int) ∧ W.cell? ⟨b', o' + q * 5 + 2, none⟩ = some (.string y.text) ∧ W.cell? ⟨b', o' + q * 5 + 3, none⟩ = some (.slice Ay y.items.length cy) ∧ W.cell? ⟨b', o' + q * 5 + 4, none⟩ = some (.slice Ky y.keys.length dy)))
            (first
              | (exact ⟨Lib.hid (BelowD.drew (belowD_drewN (BelowD.refl _ _) _)), ⟨q3, q3'⟩, ⟨e0, e1, e2, e3, e4⟩, f0, f1, f2, f3, f4⟩)
              | (go_split_ands
                 have hB := keepBD (by assumption) hb3
                 exact ⟨Lib.hid hB, ⟨(bcellD hB _ _ (by omega)).trans q3, (bcellD hB _ _ (by omega)).trans q3'⟩, ⟨(bcellD hB _ _ hb1).trans e0, (bcellD hB _ _ hb1).trans e1, (bcellD hB _ _ hb1).trans e2, (bcellD hB _ _ hb1).trans e3, (bcellD hB _ _ hb1).trans e4⟩,
                   (bcellD hB _ _ hb2).trans f0, (bcellD hB _ _ hb2).trans f1, (bcellD hB _ _ hb2).trans f2, (bcellD hB _ _ hb2).trans f3, (bcellD hB _ _ hb2).trans f4⟩))
            (first
              | (go_at_call 86; refine (HC.out _ ?_).mono ?_; (go_split_ands; exact Hid.out (by assumption)); rintro e w1 ⟨rfl, hb3⟩))
          go_split_ands
          have HB3 : Hid (BelowD wr.heap.size wr w1) := by assumption
          clear hb3
          by_cases hr0 : r = 0
          · subst hr0
            go_wp2_with fail
            go_roundw
            case rel => exact ⟨q + 1, by omega, by go_num, Lib.hid (by rw [← HA.out, cmpAt_next HX.out HY.out (fun h => absurd (by simpa using h) HK5.out), ← HR.out]; rfl), Lib.hid (HW.out.trans (HB3.out.mono hz))⟩
            case measure => simp [intOf]; omega
          · have hr1 : (r != 0) = true := by simpa using hr0
            have HR0 := Lib.hid hr0
            clear hr0
            go_wp2_with fail
            go_ret
            go_light
            exact ⟨ret_int (by rw [← HA.out, cmpAt_next HX.out HY.out (fun h => absurd (by simpa using h) HK5.out), ← HR.out, if_neg HR0.out]), (box2D HW.out).trans (HB3.out.mono (by omega))⟩

      · go_wp2_with fail
        refine (cmpInt_any _ _ _).mono ?_
        rintro e w1 ⟨rfl, rfl⟩
        go_wp2_with fail
        go_ret
        go_light
        exact ⟨ret_int (by rw [← HA.out, cmpAt_end (by have := HN1.out; have := HN2.out; omega) (by have := HN1.out; omega) (by have := HN2.out; omega), HN1.out, HN2.out]), box2D HW.out⟩
end Go.Proofs.YtchadlbhdcpojaaGreatDoor
/- The program's order, and Compare. -/
namespace Go.Proofs.YtchadlbhdcpojaaGreatDoor
open Go.RowKit

theorem cmpI_self (k : Int) : cmpI k k = 0 := by unfold cmpI; simp
theorem cmpI_ne {k k' : Int} (h : ¬ k = k') : (cmpI k k' != 0) = true := by
  unfold cmpI
  rcases Int.lt_or_gt_of_ne h with h1 | h1
  · simp [h1]
  · rw [if_neg (by omega), if_pos h1]; rfl

set_option maxRecDepth 100000 in
set_option maxHeartbeats 2000000 in
theorem order_walkD (k i k' i' : Int) (t t' : ByteArray) (n m n' m' : Nat) (w : World) (A K : Option Addr) (c d : Nat) (A' K' : Option Addr) (c' d' : Nat) (r : Int)
    (HC : Hid (¬ k = 1 → ¬ k = 2 → ¬ k = 3 → k = k' → ∀ W : World, BelowD w.heap.size w W → Calls Tryz.prog 96 #[.agg #[.int .i64 k, .int .i64 i, .string t, .slice A n c, .slice K m d], .agg #[.int .i64 k', .int .i64 i', .string t', .slice A' n' c', .slice K' m' d']] W fun e w' => e = .returned (.int .i64 r) ∧ BelowD W.heap.size W w')) :
    Calls Tryz.prog 86 #[.agg #[.int .i64 k, .int .i64 i, .string t, .slice A n c, .slice K m d], .agg #[.int .i64 k', .int .i64 i', .string t', .slice A' n' c', .slice K' m' d']] w fun e w' => e = .returned (.int .i64 (if k = k' then if k = 1 ∨ k = 2 then cmpI i i' else if k = 3 then cmpS t t' else r else cmpI k k')) ∧ BelowD w.heap.size w w' := by
  by_cases hk : k = k'
  · rw [if_pos hk]
    subst hk
    have HI := Lib.hid fun W => (cmpI_self k ▸ cmpInt_any k k W)
    by_cases h1 : k = 1
    · subst h1
      rw [if_pos (.inl rfl)]
      go_enter Tryz.func86, Tryz.ntmps86
      go_wp2_with fail
      refine (HI.out _).mono ?_
      rintro e w1 ⟨rfl, rfl⟩
      go_wp2_with fail
      refine (cmpInt_any _ _ _).mono ?_
      rintro e w1 ⟨rfl, rfl⟩
      go_wp2_with fail
      go_ret
      exact ⟨rfl, ((BelowD.refl _ _).alloc (Nat.le_refl _) _).alloc (by simp) _⟩
    by_cases h2 : k = 2
    · subst h2
      rw [if_pos (.inr rfl)]
      go_enter Tryz.func86, Tryz.ntmps86
      go_wp2_with fail
      refine (HI.out _).mono ?_
      rintro e w1 ⟨rfl, rfl⟩
      go_wp2_with fail
      refine (cmpInt_any _ _ _).mono ?_
      rintro e w1 ⟨rfl, rfl⟩
      go_wp2_with fail
      go_ret
      exact ⟨rfl, ((BelowD.refl _ _).alloc (Nat.le_refl _) _).alloc (by simp) _⟩
    rw [if_neg (by rintro (h | h); exact h1 h; exact h2 h)]
    by_cases h3 : k = 3
    · subst h3
      rw [if_pos rfl]
      go_enter Tryz.func86, Tryz.ntmps86
      go_wp2_with fail
      refine (HI.out _).mono ?_
      rintro e w1 ⟨rfl, rfl⟩
      go_wp2_with fail
      refine (cmpStr_any _ _ _).mono ?_
      rintro e w1 ⟨rfl, rfl⟩
      go_wp2_with fail
      go_ret
      exact ⟨rfl, ((BelowD.refl _ _).alloc (Nat.le_refl _) _).alloc (by simp) _⟩
    rw [if_neg h3]
    have HC1 := Lib.hid (HC.out h1 h2 h3 rfl)
    go_enter Tryz.func86, Tryz.ntmps86
    go_wp2_with fail
    refine (HI.out _).mono ?_
    rintro e w1 ⟨rfl, rfl⟩
    go_wp2_with fail
    refine (HC1.out _ (((BelowD.refl _ _).alloc (Nat.le_refl _) _).alloc (by simp) _)).mono ?_
    rintro e w1 ⟨rfl, hb⟩
    go_wp2_with fail
    go_ret
    exact ⟨rfl, (((BelowD.refl _ _).alloc (Nat.le_refl _) _).alloc (by simp) _).trans (hb.mono (by simp; omega))⟩
  · rw [if_neg hk]
    have HI := Lib.hid fun W => cmpInt_any k k' W
    have hr := cmpI_ne hk
    obtain ⟨q, hq⟩ : ∃ q, q = cmpI k k' := ⟨_, rfl⟩
    rw [← hq] at HI hr ⊢
    clear hq hk
    go_enter Tryz.func86, Tryz.ntmps86
    go_wp2_with fail
    refine (HI.out _).mono ?_
    rintro e w1 ⟨rfl, rfl⟩
    go_wp2_with fail
    go_ret
    exact ⟨rfl, ((BelowD.refl _ _).alloc (Nat.le_refl _) _).alloc (by simp) _⟩

theorem order_anyD (N : Nat) : OrderSaidD 86 N := by
  induction N with
  | zero => intro x y w A K c d A' K' c' d' hx; have := x.nodes_pos; omega
  | succ N ih =>
    intro x y w A K c d A' K' c' d' hx hok hok' h h'
    obtain ⟨k, i, t, l, ks⟩ := x
    obtain ⟨k', i', t', l', ks'⟩ := y
    rw [V.nodes] at hx
    rw [V.cmp]
    simp only [V.kind, V.int, V.text, V.items, V.keys]
    refine order_walkD k i k' i' t t' _ _ _ _ w A K c d A' K' c' d' _ (Lib.hid fun h1 h2 h3 hk W hW => ?_)
    exact orderItems_ofD N ih k i k' i' t t' l l' ks ks' W A K c d A' K' c' d' (by omega) (ok_items hok) (ok_items hok') (fun h5 => ⟨ok_keys hok h5, ok_keys hok' (by omega)⟩) (Lies.keep (bcellD hW) hW.size _ h) (Lies.keep (bcellD hW) hW.size _ h')

theorem order_any (N : Nat) : OrderSaid 86 N := fun x y w A K c d A' K' c' d' hN hx hy h h' =>
  (order_anyD N x y w A K c d A' K' c' d' hN hx hy h h').mono fun _ _ hh => ⟨hh.1, hh.2.below⟩

def CmpPost (x y : V) (w : World) (e : Ending) (w' : World) : Prop :=
  e = .returned (if x.valid && y.valid then .tuple #[.int .i64 (x.cmp y), .int .i64 0] else .tuple #[.int .i64 0, .int .i64 1]) ∧ Below w.heap.size w w'
theorem valid_ok {x : V} (h : x.valid = true) : x.ok = true := by unfold V.valid V.fits at h; simp at h; exact h.1.1

set_option maxRecDepth 100000 in
set_option maxHeartbeats 1000000 in
theorem compare_any (x y : V) (w : World) (A K : Option Addr) (c d : Nat) (A' K' : Option Addr) (c' d' : Nat) (h : Lies w w.heap.size x A c K d) (h' : Lies w w.heap.size y A' c' K' d') :
    Calls Tryz.prog 71 #[.agg #[.int .i64 x.kind, .int .i64 x.int, .string x.text, .slice A x.items.length c, .slice K x.keys.length d], .agg #[.int .i64 y.kind, .int .i64 y.int, .string y.text, .slice A' y.items.length c', .slice K' y.keys.length d']] w (CmpPost x y w) := by
  have HV1 := Lib.hid fun W (hW : Below w.heap.size w W) => valid_any x W A K c d (Lies.keep (bcell hW) hW.size _ h)
  have HV2 := Lib.hid fun W (hW : Below w.heap.size w W) => valid_any y W A' K' c' d' (Lies.keep (bcell hW) hW.size _ h')
  have hB0 : ∀ (o o' : Obj), Below w.heap.size w ((w.alloc o).alloc o') := fun o o' => ((Below.refl _ _).alloc (Nat.le_refl _) _).alloc (by simp) _
  have HB0 := Lib.hid hB0
  clear hB0
  cases hv : x.valid
  · have HX := Lib.hid hv
    rw [hv] at HV1
    clear hv
    go_enter Tryz.func71, Tryz.ntmps71
    go_wp2_with fail
    refine (HV1.out _ (HB0.out _ _)).mono ?_
    rintro e w1 ⟨rfl, hb⟩
    have HB := Lib.hid ((HB0.out _ _).trans (hb.mono (by simp; omega)))
    clear hb
    go_wp2_with fail
    go_ret2
    go_light
    exact ⟨by rw [HX.out]; rfl, HB.out⟩
  have HX := Lib.hid hv
  rw [hv] at HV1
  have hox := Lib.hid (valid_ok hv)
  clear hv
  cases hv : y.valid
  · have HY := Lib.hid hv
    rw [hv] at HV2
    clear hv
    go_enter Tryz.func71, Tryz.ntmps71
    go_wp2_with fail
    refine (HV1.out _ (HB0.out _ _)).mono ?_
    rintro e w1 ⟨rfl, hb⟩
    have HB := Lib.hid ((HB0.out _ _).trans (hb.mono (by simp; omega)))
    have hc := bcell hb
    have hz := hb.size
    simp only [World.size_alloc] at hz
    clear hb
    go_wp2_with fail
    refine (HV2.out _ HB.out).mono ?_
    rintro e w2 ⟨rfl, hb⟩
    have HB2 := Lib.hid (HB.out.trans (hb.mono (by omega)))
    clear hb
    go_wp2_with fail
    go_ret2
    go_light
    exact ⟨by rw [HX.out, HY.out]; rfl, HB2.out⟩
  have HY := Lib.hid hv
  rw [hv] at HV2
  have HC := Lib.hid fun W (hW : Below w.heap.size w W) => order_any x.nodes x y W A K c d A' K' c' d' (Nat.le_refl _) hox.out (valid_ok hv) (Lies.keep (bcell hW) hW.size _ h) (Lies.keep (bcell hW) hW.size _ h')
  clear hv
  obtain ⟨r, hr⟩ : ∃ r, r = x.cmp y := ⟨_, rfl⟩
  rw [← hr] at HC
  have HR := Lib.hid hr
  clear hr
  go_enter Tryz.func71, Tryz.ntmps71
  go_wp2_with fail
  refine (HV1.out _ (HB0.out _ _)).mono ?_
  rintro e w1 ⟨rfl, hb⟩
  have HB := Lib.hid ((HB0.out _ _).trans (hb.mono (by simp; omega)))
  have HK := Lib.hid (hb.mono (B' := w.heap.size + 2) (by simp))
  have hc := bcell hb
  have hz := hb.size
  simp only [World.size_alloc] at hz
  clear hb
  go_wp2_with fail
  refine (HV2.out _ HB.out).mono ?_
  rintro e w2 ⟨rfl, hb⟩
  have HB2 := Lib.hid (HB.out.trans (hb.mono (by omega)))
  have hz2 := hb.size
  obtain ⟨a0, a1, a2, a3, a4, b0, b1, b2, b3, b4⟩ := box2all (HK.out.trans (hb.mono hz))
  clear hb hc
  go_wp2_with fail
  refine (HC.out _ HB2.out).mono ?_
  rintro e w3 ⟨rfl, hb⟩
  have HB3 := Lib.hid (HB2.out.trans (hb.mono (by omega)))
  clear hb
  go_wp2_with fail
  go_ret2
  go_light
  exact ⟨by rw [HX.out, HY.out, ← HR.out]; rfl, HB3.out⟩

end Go.Proofs.YtchadlbhdcpojaaGreatDoor
/- The definitions' order, and Compare. -/
namespace Go.Proofs.YtchadlbhdcpojaaGreatDoor
open Go.RowKit

end Go.Proofs.YtchadlbhdcpojaaGreatDoor
