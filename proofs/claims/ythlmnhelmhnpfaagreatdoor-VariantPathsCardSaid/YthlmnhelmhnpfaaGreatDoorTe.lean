/- Paths of the specification: Compare, Written, PathText; the plain reading of paths. -/
import Derived.Test.YthlmnhelmhnpfaaGreatDoorTa
import Derived.Test.YthlmnhelmhnpfaaGreatDoorYe
import Derived.Deep.RegionHeld3
import Derived.Test.YthlmnhelmhnpfaaGreatDoorVb
import Derived.Test.YthlmnhelmhnpfaaGreatDoorYh
namespace Go.Proofs.YthlmnhelmhnpfaaGreatDoor
open Go.RowKit
theorem below_own {w a b : World} {v : Value} {l : List UInt8} (hb : Below w.heap.size w a) (h : Own w.heap.size v l a) (hg : a.grownBy b v.ownBlock) : Below w.heap.size w b :=
  hb.trans (below_grow hg hb.size (fun r e => (World.ownsRow.lt h r e).1))
theorem own_lit (w : World) (c : UInt8) : Own w.heap.size (.slice (some ⟨w.heap.size, 0, none⟩) 1 1) [c] (w.alloc (.cells #[.int .u8 c.toNat] 5)) :=
  World.ownsRow_lit w #[.int .u8 c.toNat] 1 (Nat.le_refl _) (by decide) rfl
def QtAt (s : ByteArray) (w wr : World) (v : Value) (acc : List UInt8) (k : Nat) : Prop :=
  acc = 34 :: (s.data.toList.take k).flatMap escB ∧ Below w.heap.size w wr ∧ Own w.heap.size v acc wr
theorem qt_len {s : ByteArray} {acc : List UInt8} {k : Nat} (h : acc = 34 :: (s.data.toList.take k).flatMap escB) : acc.length ≤ 2 * k + 1 := by
  have h1 := esc_len (s.data.toList.take k)
  have h2 := List.length_take_le k s.data.toList
  rw [h, List.length_cons]
  omega
theorem qt_plain {s : ByteArray} {acc : List UInt8} {k : Nat} (h : acc = 34 :: (s.data.toList.take k).flatMap escB) (hk : k < s.size) (h34 : ¬ s[k].toNat = 34) (h92 : ¬ s[k].toNat = 92) : acc ++ [s[k]] = 34 :: (s.data.toList.take (k + 1)).flatMap escB := by
  rw [h, take_next s k hk, List.flatMap_append, List.flatMap_singleton, escB, if_neg (fun e => e.elim (fun e => h34 (by rw [e]; rfl)) (fun e => h92 (by rw [e]; rfl)))]
  rfl
theorem qt_esc {s : ByteArray} {acc : List UInt8} {k : Nat} (h : acc = 34 :: (s.data.toList.take k).flatMap escB) (hk : k < s.size) (he : s[k].toNat = 34 ∨ s[k].toNat = 92) : acc ++ [92] ++ [s[k]] = 34 :: (s.data.toList.take (k + 1)).flatMap escB := by
  rw [h, take_next s k hk, List.flatMap_append, List.flatMap_singleton, escB, if_pos (he.imp (fun e => UInt8.toNat_inj.1 e) (fun e => UInt8.toNat_inj.1 e))]
  simp
theorem qt_end {s : ByteArray} {acc : List UInt8} {k : Nat} (h : acc = 34 :: (s.data.toList.take k).flatMap escB) (hk : ¬ k < s.size) : acc ++ [34] = quoteB s.data.toList := by
  rw [h, List.take_of_length_le (by simp; omega)]
  rfl
set_option maxRecDepth 100000 in
set_option maxHeartbeats 4000000 in
theorem refQuoted_any (s : ByteArray) (w : World) (hs : s.size ≤ 1000000) :
    Calls Tryz.prog 63 #[.string s] w fun e w' => e = .returned (.string ⟨(quoteB s.data.toList).toArray⟩) ∧ Below w.heap.size w w' := by
  obtain ⟨i0, hi, hz0, hz1, hz2⟩ := info_parts (P := Tryz.prog) (e := 5) (z := .int .u8 0) (size := 1) (bytes := 1) (by kernel_rfl)
  have hz := Nat.le_refl w.heap.size
  have HS := Lib.hid (show QtAt s w (w.alloc (.cells #[.int .u8 34] 5)) (.slice (some ⟨w.heap.size, 0, none⟩) 1 1) [34] 0 from ⟨by simp, below_al (Below.refl _ w) _, own_lit w 34⟩)
  go_enter Tryz.func63, Tryz.ntmps63
  go_wp2_with fail
  go_loopw [3, 4] (fun v i wr => ∃ (A : Option Addr) (c k : Nat) (acc : List UInt8), v = .slice A acc.length c ∧ i = .int .i64 k ∧ k ≤ s.size ∧ Hid (QtAt s w wr v acc k)) (fun _ i _ => s.size - (intOf i).toNat)
  case atStart => exact ⟨some ⟨w.heap.size, 0, none⟩, 1, 0, [34], rfl, rfl, Nat.zero_le _, HS⟩
  case round =>
    obtain ⟨A, c, k, acc, rfl, rfl, hk, HQ⟩ := hrel
    have hal := qt_len HQ.out.1
    have hsz := HQ.out.2.1.size
    have HE := Lib.hid HQ.out.1
    have HB := Lib.hid HQ.out.2.1
    have HO := Lib.hid HQ.out.2.2
    clear HS
    by_cases hlt : k < s.size
    · by_cases he : s[k].toNat = 34 ∨ s[k].toNat = 92
      · have HX := Lib.hid (qt_esc HE.out hlt he)
        obtain ⟨x, hx⟩ : ∃ x, x = s[k] := ⟨_, rfl⟩
        rw [← hx] at HX he
        have hxe := hx.symm
        clear hx
        have key : ((x.toNat : Int) == 34) = true ∨ (((x.toNat : Int) == 34) = false ∧ ((x.toNat : Int) == 92) = true) := by
          rcases he with he | he
          · left; simp; omega
          · right; constructor <;> (simp; omega)
        clear he
        rcases key with e0 | ⟨e0, e1⟩
        all_goals
          go_wp2_with (at_builtin; refine wpList_append_own _ rfl _ _ 112 rfl w.heap.size 5 i0 (.int .u8 0) 1 1 Tryz.underlying112 hi hz0 hz1 hz2 rfl (by decide) _ _ _ rfl (World.ownsRow.alloc HO.out _) _ 1 1 [.int .u8 (92 : UInt8).toNat] rfl rfl ?c1 ?c2 ?c3 ?c4 ?c5 ?_)
          case c1 =>
            intro i u hj
            match i, hj with
            | 0, hj => simp at hj; subst hj; simp [Addr.add]
          case c2 => intro u hu; simp at hu; subst hu; rfl
          case c3 => unfold maxLen; omega
          case c4 => omega
          case c5 => simp; omega
          intro v' w5 hown hgrow _
          have HO5 := Lib.hid (Own.push (x := 92) hown)
          have HB5 := Lib.hid (below_own (below_al HB.out _) (World.ownsRow.alloc HO.out _) hgrow)
          have hsz5 := HB5.out.size
          clear hown hgrow
          obtain ⟨A5, c5, rfl⟩ := HO5.out.form
          have hal5 : (acc ++ [92]).length ≤ 2 * k + 2 := by simp; omega
          obtain ⟨ac5, hac5⟩ : ∃ ac5, ac5 = acc ++ [92] := ⟨_, rfl⟩
          rw [← hac5] at HO5 HX hal5 ⊢
          clear hac5
          go_wp2_with (at_builtin; refine wpList_append_own _ rfl _ _ 112 rfl w.heap.size 5 i0 (.int .u8 0) 1 1 Tryz.underlying112 hi hz0 hz1 hz2 rfl (by decide) _ _ _ rfl (World.ownsRow.alloc HO5.out _) _ 1 1 [.int .u8 x.toNat] rfl rfl ?c1 ?c2 ?c3 ?c4 ?c5 ?_)
          case c1 =>
            intro i u hj
            match i, hj with
            | 0, hj => simp at hj; subst hj; simp [Addr.add]
          case c2 => intro u hu; simp at hu; subst hu; rfl
          case c3 => unfold maxLen; omega
          case c4 => omega
          case c5 => simp; omega
          intro v' w6 hown hgrow _
          have HO6 := Lib.hid (Own.push hown)
          have HB6 := Lib.hid (below_own (below_al HB5.out _) (World.ownsRow.alloc HO5.out _) hgrow)
          clear hown hgrow
          obtain ⟨A6, c6, rfl⟩ := HO6.out.form
          go_wp2_with fail
          go_roundw
          case rel => exact ⟨A6, c6, k + 1, ac5 ++ [x], rfl, rfl, hlt, Lib.hid ⟨HX.out, HB6.out, HO6.out⟩⟩
          case measure => simp [intOf]; omega
      · have h34 : ¬ s[k].toNat = 34 := fun e => he (.inl e)
        have h92 : ¬ s[k].toNat = 92 := fun e => he (.inr e)
        have HX := Lib.hid (qt_plain HE.out hlt h34 h92)
        obtain ⟨x, hx⟩ : ∃ x, x = s[k] := ⟨_, rfl⟩
        rw [← hx] at HX h34 h92
        have hxe := hx.symm
        have e0 : ((x.toNat : Int) == 34) = false := by simp; omega
        have e1 : ((x.toNat : Int) == 92) = false := by simp; omega
        clear he h34 h92 hx
        go_wp2_with (at_builtin; refine wpList_append_own _ rfl _ _ 112 rfl w.heap.size 5 i0 (.int .u8 0) 1 1 Tryz.underlying112 hi hz0 hz1 hz2 rfl (by decide) _ _ _ rfl (World.ownsRow.alloc HO.out _) _ 1 1 [.int .u8 x.toNat] rfl rfl ?c1 ?c2 ?c3 ?c4 ?c5 ?_)
        case c1 =>
          intro i u hj
          match i, hj with
          | 0, hj => simp at hj; subst hj; simp [Addr.add]
        case c2 => intro u hu; simp at hu; subst hu; rfl
        case c3 => unfold maxLen; omega
        case c4 => omega
        case c5 => simp; omega
        intro v' w6 hown hgrow _
        have HO6 := Lib.hid (Own.push hown)
        have HB6 := Lib.hid (below_own (below_al HB.out _) (World.ownsRow.alloc HO.out _) hgrow)
        clear hown hgrow
        obtain ⟨A6, c6, rfl⟩ := HO6.out.form
        go_wp2_with fail
        go_roundw
        case rel => exact ⟨A6, c6, k + 1, acc ++ [x], rfl, rfl, hlt, Lib.hid ⟨HX.out, HB6.out, HO6.out⟩⟩
        case measure => simp [intOf]; omega
    · have HX := Lib.hid (qt_end HE.out hlt)
      go_wp2_with (at_builtin; refine wpList_append_own _ rfl _ _ 112 rfl w.heap.size 5 i0 (.int .u8 0) 1 1 Tryz.underlying112 hi hz0 hz1 hz2 rfl (by decide) _ _ _ rfl (World.ownsRow.alloc HO.out _) _ 1 1 [.int .u8 (34 : UInt8).toNat] rfl rfl ?c1 ?c2 ?c3 ?c4 ?c5 ?_)
      case c1 =>
        intro i u hj
        match i, hj with
        | 0, hj => simp at hj; subst hj; simp [Addr.add]
      case c2 => intro u hu; simp at hu; subst hu; rfl
      case c3 => unfold maxLen; omega
      case c4 => omega
      case c5 => simp; omega
      intro v' w6 hown hgrow _
      have HO6 := Lib.hid (Own.push (x := 34) hown)
      have HB6 := Lib.hid (below_own (below_al HB.out _) (World.ownsRow.alloc HO.out _) hgrow)
      clear hown hgrow
      have hcv := own_string HO6.out
      go_wp2_with fail
      go_ret
      exact ⟨by rw [HX.out]; rfl, HB6.out⟩
theorem cat_c (u : List UInt8) (c : UInt8) : (⟨u.toArray⟩ ++ ⟨#[c]⟩ : ByteArray) = ⟨(u ++ [c]).toArray⟩ := ByteArray.mk_append_mk u [c]
theorem cat_l (u v : List UInt8) : (⟨u.toArray⟩ ++ ⟨v.toArray⟩ : ByteArray) = ⟨(u ++ v).toArray⟩ := ByteArray.mk_append_mk u v
theorem cat_h (c : UInt8) (v : List UInt8) : (⟨#[c]⟩ ++ ⟨v.toArray⟩ : ByteArray) = ⟨(c :: v).toArray⟩ := ByteArray.mk_append_mk [c] v
def WrPost (x : V) (w : World) (e : Ending) (w' : World) : Prop := e = .returned (.string ⟨x.write.toArray⟩) ∧ Below w.heap.size w w'
def WrAt (o : Bool) (l : List V) (ks : List ByteArray) (w wr : World) (x : V) (A : Option Addr) (c : Nat) (K : Option Addr) (d k : Nat) (u : List UInt8) : Prop :=
  u = writeTo o l ks k ∧ Below w.heap.size w wr ∧ Boxed wr w.heap.size x A c K d
theorem wr_len {o : Bool} {l : List V} {ks : List ByteArray} (hl : V.okL l = true) (hk : keysOk o l.length ks) (hn : V.nodesL l ≤ 60) (k : Nat) : (writeTo o l ks k).length ≤ 24600 := by
  have h1 := V.writeL_len o true (l.take k) ks (V.okL_take hl k) (fun ho j hj => hk ho j (by rw [List.length_take] at hj; omega))
  have h2 := V.nodesL_take_le l k
  unfold writeTo
  omega
theorem keep11 {w0 wx w1 : World} {n g kb ko b o : Nat} {a0 a1 a2 a3 a4 v0 v1 v2 v3 v4 u0 : Value}
    (h : ((g < wx.heap.size ∧ kb < wx.heap.size ∧ b < wx.heap.size ∧ n ≤ wx.heap.size) ∧ Hid (Below n w0 wx)) ∧
      (wx.cell? ⟨g, 0, none⟩ = some a0 ∧ wx.cell? ⟨g, 1, none⟩ = some a1 ∧ wx.cell? ⟨g, 2, none⟩ = some a2 ∧ wx.cell? ⟨g, 3, none⟩ = some a3 ∧ wx.cell? ⟨g, 4, none⟩ = some a4) ∧
      wx.cell? ⟨kb, ko, none⟩ = some u0 ∧
      (wx.cell? ⟨b, o, none⟩ = some v0 ∧ wx.cell? ⟨b, o + 1, none⟩ = some v1 ∧ wx.cell? ⟨b, o + 2, none⟩ = some v2 ∧ wx.cell? ⟨b, o + 3, none⟩ = some v3 ∧ wx.cell? ⟨b, o + 4, none⟩ = some v4))
    (hb : Below wx.heap.size wx w1) :
    ((g < w1.heap.size ∧ kb < w1.heap.size ∧ b < w1.heap.size ∧ n ≤ w1.heap.size) ∧ Hid (Below n w0 w1)) ∧
      (w1.cell? ⟨g, 0, none⟩ = some a0 ∧ w1.cell? ⟨g, 1, none⟩ = some a1 ∧ w1.cell? ⟨g, 2, none⟩ = some a2 ∧ w1.cell? ⟨g, 3, none⟩ = some a3 ∧ w1.cell? ⟨g, 4, none⟩ = some a4) ∧
      w1.cell? ⟨kb, ko, none⟩ = some u0 ∧
      (w1.cell? ⟨b, o, none⟩ = some v0 ∧ w1.cell? ⟨b, o + 1, none⟩ = some v1 ∧ w1.cell? ⟨b, o + 2, none⟩ = some v2 ∧ w1.cell? ⟨b, o + 3, none⟩ = some v3 ∧ w1.cell? ⟨b, o + 4, none⟩ = some v4) := by
  obtain ⟨⟨⟨h1, h2, h3, h4⟩, h5⟩, ⟨c0, c1, c2, c3, c4⟩, k0, d0, d1, d2, d3, d4⟩ := h
  have hk := bcell hb
  have hs := hb.size
  exact ⟨⟨⟨by omega, by omega, by omega, by omega⟩, h5.out.trans (hb.mono (by omega))⟩, ⟨(hk _ _ h1).trans c0, (hk _ _ h1).trans c1, (hk _ _ h1).trans c2, (hk _ _ h1).trans c3, (hk _ _ h1).trans c4⟩,
    (hk _ _ h2).trans k0, (hk _ _ h3).trans d0, (hk _ _ h3).trans d1, (hk _ _ h3).trans d2, (hk _ _ h3).trans d3, (hk _ _ h3).trans d4⟩
set_option maxRecDepth 100000 in
set_option maxHeartbeats 8000000 in
theorem written_any (N : Nat) : ∀ (x : V) (w : World) (A K : Option Addr) (c d : Nat), x.nodes ≤ N → N ≤ 60 → x.ok = true → Lies w w.heap.size x A c K d →
    Calls Tryz.prog 97 #[aggOf x A c K d] w (WrPost x w) := by
  induction N with
  | zero => intro x w A K c d hx; have := x.nodes_pos; omega
  | succ N ih =>
    intro x w A K c d hxn hN hok hL
    obtain ⟨k, i, t, l, ks⟩ := x
    have IH := Lib.hid ih
    have hok' := hok
    rw [V.ok, Bool.and_eq_true] at hok'
    obtain ⟨hs, hl⟩ := hok'
    have HB0 := Lib.hid (show Below w.heap.size w (w.alloc (.cells #[.int .i64 k, .int .i64 i, .string t, .slice A l.length c, .slice K ks.length d] 38)) ∧ Boxed (w.alloc (.cells #[.int .i64 k, .int .i64 i, .string t, .slice A l.length c, .slice K ks.length d] 38)) w.heap.size (.mk k i t l ks) A c K d from ⟨below_al (Below.refl _ w) _, BlockIs.new w _ _⟩)
    have hzw := Nat.le_refl w.heap.size
    unfold aggOf
    show Calls Tryz.prog 97 #[.agg #[.int .i64 k, .int .i64 i, .string t, .slice A l.length c, .slice K ks.length d]] w (WrPost (.mk k i t l ks) w)
    clear ih
    by_cases h0 : k = 0
    · subst h0
      have HE := Lib.hid (show (V.mk 0 i t l ks).write = nullB by rw [V.write, if_pos rfl])
      clear hs hl hok hL
      go_enter Tryz.func97, Tryz.ntmps97
      go_wp2_with fail
      go_ret
      exact ⟨by rw [HE.out]; rfl, HB0.out.1⟩
    by_cases h1 : k = 1
    · subst h1
      unfold V.sound at hs
      simp at hs
      obtain ⟨⟨hi, -⟩, -, -⟩ := hs
      clear hl hok hL h0
      rcases hi with rfl | rfl
      · have HE := Lib.hid (show (V.mk 1 0 t l ks).write = truthB false by rw [V.write, if_neg (by decide), if_pos rfl]; rfl)
        go_enter Tryz.func97, Tryz.ntmps97
        go_wp2_with fail
        go_ret
        exact ⟨by rw [HE.out]; rfl, HB0.out.1⟩
      · have HE := Lib.hid (show (V.mk 1 1 t l ks).write = truthB true by rw [V.write, if_neg (by decide), if_pos rfl]; rfl)
        go_enter Tryz.func97, Tryz.ntmps97
        go_wp2_with fail
        go_ret
        exact ⟨by rw [HE.out]; rfl, HB0.out.1⟩
    by_cases h2 : k = 2
    · subst h2
      unfold V.sound at hs
      simp at hs
      obtain ⟨⟨⟨hi1, hi2⟩, -⟩, -, -⟩ := hs
      have HE := Lib.hid (show (V.mk 2 i t l ks).write = Lib.itoa i by rw [V.write, if_neg (by decide), if_neg (by decide), if_pos rfl])
      have HD := Lib.hid fun W => digits_any (i.natAbs + 1) i W (by omega) hi1 hi2
      clear hl hok hL h0 h1
      go_enter Tryz.func97, Tryz.ntmps97
      go_wp2_with fail
      refine (HD.out _).mono ?_
      rintro e w1 ⟨rfl, hb1⟩
      have HB1 := Lib.hid (below_on HB0.out.1 hb1)
      clear hb1
      go_wp2_with fail
      go_ret
      exact ⟨by rw [HE.out]; rfl, HB1.out⟩
    by_cases h3 : k = 3
    · subst h3
      unfold V.sound at hs
      simp at hs
      obtain ⟨⟨-, ht⟩, -, -⟩ := hs
      have htl := textB_len ht
      have HE := Lib.hid (show (V.mk 3 i t l ks).write = quoteB t.data.toList by rw [V.write, if_neg (by decide), if_neg (by decide), if_neg (by decide), if_pos rfl])
      have HD := Lib.hid fun W => refQuoted_any t W (by have : t.data.toList.length = t.size := by simp
                                                        omega)
      clear hl hok hL h0 h1 h2 ht htl
      go_enter Tryz.func97, Tryz.ntmps97
      go_wp2_with fail
      refine (HD.out _).mono ?_
      rintro e w1 ⟨rfl, hb1⟩
      have HB1 := Lib.hid (below_on HB0.out.1 hb1)
      clear hb1
      go_wp2_with fail
      go_ret
      exact ⟨by rw [HE.out]; rfl, HB1.out⟩
    have hnl : V.nodesL l ≤ N := by simp only [V.nodes] at hxn; omega
    have hn60 : V.nodesL l ≤ 60 := by omega
    have HL := Lib.hid hL
    have hlm : l.length ≤ 9223372036854775807 := by have := hL.items.1; have := hL.items.2.1; unfold maxLen at *; omega
    obtain ⟨n, hn⟩ : ∃ n, n = l.length := ⟨_, rfl⟩
    have HN := Lib.hid hn
    by_cases h4 : k = 4
    · subst h4
      have HE := Lib.hid (show (V.mk 4 i t l ks).write = 91 :: (V.writeL false true l ks ++ [93]) by rw [V.write, if_neg (by decide), if_neg (by decide), if_neg (by decide), if_neg (by decide), if_pos rfl])
      have HLen := Lib.hid fun k => wr_len (o := false) (ks := ks) hl (fun h => by cases h) hn60 k
      have HOk := Lib.hid hl
      clear hl hok hL h0 h1 h2 h3 hs
      rw [← hn] at hlm ⊢
      have HS := Lib.hid (show WrAt false l ks w (w.alloc (.cells #[.int .i64 4, .int .i64 i, .string t, .slice A n c, .slice K ks.length d] 38)) (.mk 4 i t l ks) A c K d 0 [] from ⟨by simp [writeTo, V.writeL], by rw [hn]; exact HB0.out.1, by rw [hn]; exact HB0.out.2⟩)
      clear hn
      go_enter Tryz.func97, Tryz.ntmps97
      go_wp2_with fail
      go_loopw [3, 4] (fun sv iv wr => ∃ (k : Nat) (u : List UInt8), sv = .string ⟨u.toArray⟩ ∧ iv = .int .i64 k ∧ k ≤ n ∧ u.length ≤ 24600 ∧ Hid (WrAt false l ks w wr (.mk 4 i t l ks) A c K d k u)) (fun _ iv _ => n - (intOf iv).toNat)
      case atStart => exact ⟨0, [], rfl, rfl, Nat.zero_le _, by simp, HS⟩
      case round =>
        clear HS
        obtain ⟨k, u, rfl, rfl, hk, hu, HA⟩ := hrel
        have HU := Lib.hid HA.out.1
        have HB := Lib.hid HA.out.2
        obtain ⟨x0, x1, x2, x3, x4⟩ := HB.out.2.cells
        simp only [V.kind, V.int, V.text, V.items, V.keys] at x0 x1 x2 x3 x4
        rw [← HN.out] at x3
        have hzr := HB.out.1.size
        clear HA
        by_cases hlt : k < n
        · have hlt1 : k < l.length := by rw [← HN.out]; exact hlt
          have hk1 := (Lies.items HL.out).keep (w' := wr) (bcell HB.out.1) (HB.out.1.size)
          obtain ⟨b, o, rfl, hb1, hf1⟩ := hk1.at_ (k := k) hlt1
          obtain ⟨y, hy⟩ : ∃ y, l[k]? = some y := ⟨_, List.getElem?_eq_getElem hlt1⟩
          obtain ⟨Ay, cy, Ky, dy, e0, e1, e2, e3, e4, hly⟩ := hf1.at_ hy
          have hyn : y.nodes ≤ N := by have := V.nodes_mem (List.mem_of_getElem? hy); omega
          have hyo : y.ok = true := V.okL_mem HOk.out (List.mem_of_getElem? hy)
          obtain ⟨yw, hyw⟩ : ∃ yw, yw = y.write := ⟨_, rfl⟩
          have hyl : yw.length ≤ 24600 := by have := V.write_len y hyo; rw [hyw]; omega
          have HC := Lib.hid (show Calls Tryz.prog 97 #[.agg #[.int .i64 y.kind, .int .i64 y.int, .string y.text, .slice Ay y.items.length cy, .slice Ky y.keys.length dy]] wr fun e w' => e = .returned (.string ⟨yw.toArray⟩) ∧ Below wr.heap.size wr w' by
            rw [hyw]; exact IH.out y wr Ay Ky cy dy hyn (by omega) hyo hly)
          have HW := Lib.hid (writeTo_succ false hy ks)
          rw [← hyw] at HW
          have HLn := Lib.hid (HLen.out (k + 1))
          have h0 : 0 ≤ (k : Int) := by omega
          have h1 : (k : Int) < n := by omega
          clear hlt1 hk1 hf1 hy hly hyn hyo hyw
          by_cases hk0 : k = 0
          · have hkp : ¬ 0 < (k : Int) := by omega
            have HX := Lib.hid (show u ++ yw = writeTo false l ks (k + 1) by rw [HW.out, ← HU.out]; simp [sepB, hk0])
            clear hk0
            go_wp2_with fail
            refine (HC.out).mono ?_
            rintro e w1 ⟨rfl, hb2⟩
            have HB1 := Lib.hid (And.intro (below_on HB.out.1 hb2) (HB.out.2.on hb2))
            clear hb2 x0 x1 x2 x3 x4 e0 e1 e2 e3 e4
            go_wp2_with fail
            go_roundw
            case rel => exact ⟨k + 1, u ++ yw, by rw [cat_l], by go_num, by omega, by rw [HX.out]; exact HLn.out, Lib.hid ⟨HX.out, HB1.out.1, HB1.out.2⟩⟩
            case measure => simp [intOf]; omega
          · have hkp : 0 < (k : Int) := by omega
            go_wp2_with fail
            refine (HC.out).mono ?_
            rintro e w1 ⟨rfl, hb2⟩
            have HB1 := Lib.hid (And.intro (below_on HB.out.1 hb2) (HB.out.2.on hb2))
            clear hb2 x0 x1 x2 x3 x4 e0 e1 e2 e3 e4
            have HX := Lib.hid (show u ++ [44] ++ yw = writeTo false l ks (k + 1) by rw [HW.out, ← HU.out]; simp [sepB, hk0])
            go_wp2_with fail
            go_roundw
            case rel => exact ⟨k + 1, u ++ [44] ++ yw, by rw [cat_c, cat_l], by go_num, by omega, by rw [HX.out]; exact HLn.out, Lib.hid ⟨HX.out, HB1.out.1, HB1.out.2⟩⟩
            case measure => simp [intOf]; omega
        · go_wp2_with fail
          go_ret
          refine ⟨?_, HB.out.1⟩
          rw [HE.out, ← writeTo_all false l ks (k := k) (by rw [← HN.out]; omega), ← HU.out]
          rw [cat_h, cat_c]
          rfl
    by_cases h5 : k = 5
    · subst h5
      have HE := Lib.hid (show (V.mk 5 i t l ks).write = 123 :: (V.writeL true true l ks ++ [125]) by rw [V.write, if_neg (by decide), if_neg (by decide), if_neg (by decide), if_neg (by decide), if_neg (by decide)])
      have hko := ok_object hok rfl
      have HLen := Lib.hid fun k => wr_len (o := true) (ks := ks) hl hko hn60 k
      have HOk := Lib.hid hl
      have hkl : ks.length = l.length := by unfold V.sound at hs; simp at hs; exact hs.1.2
      have HKL := Lib.hid hkl
      have HKo := Lib.hid hko
      have hkn : ks.length = n := by rw [hkl, hn]
      clear hl hok hL h0 h1 h2 h3 h4 hs hko hkl
      rw [← hn] at hlm ⊢
      rw [hkn]
      have HS := Lib.hid (show WrAt true l ks w (w.alloc (.cells #[.int .i64 5, .int .i64 i, .string t, .slice A n c, .slice K n d] 38)) (.mk 5 i t l ks) A c K d 0 [] from ⟨by simp [writeTo, V.writeL], by have := HB0.out.1; rw [← hn, hkn] at this; exact this, by have := HB0.out.2; rw [← hn, hkn] at this; exact this⟩)
      have HKN := Lib.hid hkn
      clear hn hkn
      go_enter Tryz.func97, Tryz.ntmps97
      go_wp2_with fail
      go_loopw [5, 6] (fun sv iv wr => ∃ (k : Nat) (u : List UInt8), sv = .string ⟨u.toArray⟩ ∧ iv = .int .i64 k ∧ k ≤ n ∧ u.length ≤ 24600 ∧ Hid (WrAt true l ks w wr (.mk 5 i t l ks) A c K d k u)) (fun _ iv _ => n - (intOf iv).toNat)
      case atStart => exact ⟨0, [], rfl, rfl, Nat.zero_le _, by simp, HS⟩
      case round =>
        clear HS
        obtain ⟨k, u, rfl, rfl, hk, hu, HA⟩ := hrel
        have HU := Lib.hid HA.out.1
        have HB := Lib.hid HA.out.2
        obtain ⟨x0, x1, x2, x3, x4⟩ := HB.out.2.cells
        simp only [V.kind, V.int, V.text, V.items, V.keys] at x0 x1 x2 x3 x4
        rw [← HN.out] at x3
        rw [HKN.out] at x4
        have hzr := HB.out.1.size
        have hgr := HB.out.2.lt
        clear HA
        by_cases hlt : k < n
        · have hlt1 : k < l.length := by rw [← HN.out]; exact hlt
          have hlt2 : k < ks.length := by rw [HKN.out]; exact hlt
          have hk1 := (Lies.items HL.out).keep (w' := wr) (bcell HB.out.1) (HB.out.1.size)
          obtain ⟨b, o, rfl, hb1, hf1⟩ := hk1.at_ (k := k) hlt1
          obtain ⟨y, hy⟩ : ∃ y, l[k]? = some y := ⟨_, List.getElem?_eq_getElem hlt1⟩
          obtain ⟨Ay, cy, Ky, dy, e0, e1, e2, e3, e4, hly⟩ := hf1.at_ hy
          have hk2 := (Lies.keys HL.out).keep (w' := wr) (bcell HB.out.1) (HB.out.1.size)
          obtain ⟨kb, ko, rfl, hkb, hkf⟩ := hk2.at_ (k := k) hlt2
          obtain ⟨key, hkey⟩ : ∃ key, ks[k]? = some key := ⟨_, List.getElem?_eq_getElem hlt2⟩
          obtain ⟨q0, hks⟩ := hkf k key hkey
          have hyn : y.nodes ≤ N := by have := V.nodes_mem (List.mem_of_getElem? hy); omega
          have hyo : y.ok = true := V.okL_mem HOk.out (List.mem_of_getElem? hy)
          have hkd : ks.getD k ByteArray.empty = key := by simp [hkey]
          have hk100 : key.data.toList.length ≤ 100 := by have := HKo.out rfl k hlt1; rwa [hkd] at this
          obtain ⟨yw, hyw⟩ : ∃ yw, yw = y.write := ⟨_, rfl⟩
          have hyl : yw.length ≤ 24600 := by have := V.write_len y hyo; rw [hyw]; omega
          obtain ⟨kq, hkq⟩ : ∃ kq, kq = quoteB key.data.toList := ⟨_, rfl⟩
          have hkql : kq.length ≤ 210 := by have := quoteB_len key.data.toList; rw [hkq]; omega
          have HC := Lib.hid fun W (hW : Below wr.heap.size wr W) => show Calls Tryz.prog 97 #[.agg #[.int .i64 y.kind, .int .i64 y.int, .string y.text, .slice Ay y.items.length cy, .slice Ky y.keys.length dy]] W fun e w' => e = .returned (.string ⟨yw.toArray⟩) ∧ Below W.heap.size W w' by
            rw [hyw]; exact IH.out y W Ay Ky cy dy hyn (by omega) hyo (lies_on hly hW)
          have HQ := Lib.hid fun W => show Calls Tryz.prog 63 #[.string key] W fun e w' => e = .returned (.string ⟨kq.toArray⟩) ∧ Below W.heap.size W w' by
            rw [hkq]; exact refQuoted_any key W (by have : key.data.toList.length = key.size := by simp
                                                    omega)
          have HW := Lib.hid (writeTo_succ true hy ks)
          rw [← hyw, hkd] at HW
          have HKQ := Lib.hid hkq
          have HLn := Lib.hid (HLen.out (k + 1))
          have h0 : 0 ≤ (k : Int) := by omega
          have h1 : (k : Int) < n := by omega
          clear hlt1 hlt2 hk1 hf1 hy hly hyn hyo hyw hk2 hkf hkey hks hkd hk100 hkq
          by_cases hk0 : k = 0
          · have hkp : ¬ 0 < (k : Int) := by omega
            have hs1 : ¬ 9223372036854775807 < u.length + kq.length := by omega
            have hs2 : ¬ 9223372036854775807 < u.length + kq.length + 1 := by omega
            have hs3 : ¬ 9223372036854775807 < u.length + kq.length + 1 + yw.length := by omega
            have HX := Lib.hid (show u ++ kq ++ [58] ++ yw = writeTo true l ks (k + 1) by rw [HW.out, ← HU.out]; simp [sepB, hk0, ← HKQ.out])
            clear hk0
            go_wp2_with fail
            go_region_held3 (fun W => ((w.heap.size < W.heap.size ∧ kb < W.heap.size ∧ b < W.heap.size ∧ wr.heap.size ≤ W.heap.size) ∧ Hid (Below wr.heap.size wr W)) ∧
                (W.cell? ⟨w.heap.size, 0, none⟩ = some (.int .i64 5) ∧ W.cell? ⟨w.heap.size, 1, none⟩ = some (.int .i64 i) ∧ W.cell? ⟨w.heap.size, 2, none⟩ = some (.string t) ∧ W.cell? ⟨w.heap.size, 3, none⟩ = some (.slice (some ⟨b, o, none⟩) n c) ∧ W.cell? ⟨w.heap.size, 4, none⟩ = some (.slice (some ⟨kb, ko, none⟩) n d)) ∧
                W.cell? ⟨kb, ko + k, none⟩ = some (.string key) ∧
                (W.cell? ⟨b, o + k * 5, none⟩ = some (.int .i64 y.kind) ∧ W.cell? ⟨b, o + k * 5 + 1, none⟩ = some (.int .i64 y.int) ∧ W.cell? ⟨b, o + k * 5 + 2, none⟩ = some (.string y.text) ∧ W.cell? ⟨b, o + k * 5 + 3, none⟩ = some (.slice Ay y.items.length cy) ∧ W.cell? ⟨b, o + k * 5 + 4, none⟩ = some (.slice Ky y.keys.length dy)))
              (first
                | (exact ⟨⟨⟨hgr, hkb, hb1, Nat.le_refl _⟩, Lib.hid (Below.drew (Below.refl _ _))⟩, ⟨x0, x1, x2, x3, x4⟩, q0, e0, e1, e2, e3, e4⟩)
                | (exact keep11 (by assumption) hb3))
              (first
                | (go_at_call 63; refine (HQ.out _).mono ?_; rintro e w' ⟨rfl, hb3⟩)
                | (go_at_call 97; refine (HC.out _ ?_).mono ?_; (go_split_ands; exact Hid.out (by assumption)); rintro e w' ⟨rfl, hb3⟩))
            all_goals
              have HE9 : Hid (Below wr.heap.size wr w') := And.right (And.left (by assumption))
              have HB9 := Lib.hid (And.intro (below_on HB.out.1 HE9.out) (HB.out.2.on HE9.out))
              clear x0 x1 x2 x3 x4 e0 e1 e2 e3 e4 q0
              go_wp2_with fail
              go_roundw
              case rel => exact ⟨k + 1, u ++ kq ++ [58] ++ yw, by rw [cat_l, cat_c, cat_l], by go_num, by omega, by rw [HX.out]; exact HLn.out, Lib.hid ⟨HX.out, HB9.out.1, HB9.out.2⟩⟩
              case measure => simp [intOf]; omega
          · have hkp : 0 < (k : Int) := by omega
            have hs0 : ¬ 9223372036854775807 < u.length + 1 := by omega
            have hs1 : ¬ 9223372036854775807 < u.length + 1 + kq.length := by omega
            have hs2 : ¬ 9223372036854775807 < u.length + 1 + kq.length + 1 := by omega
            have hs3 : ¬ 9223372036854775807 < u.length + 1 + kq.length + 1 + yw.length := by omega
            have HX := Lib.hid (show u ++ [44] ++ kq ++ [58] ++ yw = writeTo true l ks (k + 1) by rw [HW.out, ← HU.out]; simp [sepB, hk0, ← HKQ.out])
            clear hk0
            go_wp2_with fail
            go_region_held3 (fun W => ((w.heap.size < W.heap.size ∧ kb < W.heap.size ∧ b < W.heap.size ∧ wr.heap.size ≤ W.heap.size) ∧ Hid (Below wr.heap.size wr W)) ∧
                (W.cell? ⟨w.heap.size, 0, none⟩ = some (.int .i64 5) ∧ W.cell? ⟨w.heap.size, 1, none⟩ = some (.int .i64 i) ∧ W.cell? ⟨w.heap.size, 2, none⟩ = some (.string t) ∧ W.cell? ⟨w.heap.size, 3, none⟩ = some (.slice (some ⟨b, o, none⟩) n c) ∧ W.cell? ⟨w.heap.size, 4, none⟩ = some (.slice (some ⟨kb, ko, none⟩) n d)) ∧
                W.cell? ⟨kb, ko + k, none⟩ = some (.string key) ∧
                (W.cell? ⟨b, o + k * 5, none⟩ = some (.int .i64 y.kind) ∧ W.cell? ⟨b, o + k * 5 + 1, none⟩ = some (.int .i64 y.int) ∧ W.cell? ⟨b, o + k * 5 + 2, none⟩ = some (.string y.text) ∧ W.cell? ⟨b, o + k * 5 + 3, none⟩ = some (.slice Ay y.items.length cy) ∧ W.cell? ⟨b, o + k * 5 + 4, none⟩ = some (.slice Ky y.keys.length dy)))
              (first
                | (exact ⟨⟨⟨hgr, hkb, hb1, Nat.le_refl _⟩, Lib.hid (Below.drew (Below.refl _ _))⟩, ⟨x0, x1, x2, x3, x4⟩, q0, e0, e1, e2, e3, e4⟩)
                | (exact keep11 (by assumption) hb3))
              (first
                | (go_at_call 63; refine (HQ.out _).mono ?_; rintro e w' ⟨rfl, hb3⟩)
                | (go_at_call 97; refine (HC.out _ ?_).mono ?_; (go_split_ands; exact Hid.out (by assumption)); rintro e w' ⟨rfl, hb3⟩))
            all_goals
              have HE9 : Hid (Below wr.heap.size wr w') := And.right (And.left (by assumption))
              have HB9 := Lib.hid (And.intro (below_on HB.out.1 HE9.out) (HB.out.2.on HE9.out))
              clear x0 x1 x2 x3 x4 e0 e1 e2 e3 e4 q0
              go_wp2_with fail
              go_roundw
              case rel => exact ⟨k + 1, u ++ [44] ++ kq ++ [58] ++ yw, by rw [cat_c, cat_l, cat_c, cat_l], by go_num, by omega, by rw [HX.out]; exact HLn.out, Lib.hid ⟨HX.out, HB9.out.1, HB9.out.2⟩⟩
              case measure => simp [intOf]; omega
        · go_wp2_with fail
          go_ret
          refine ⟨?_, HB.out.1⟩
          rw [HE.out, ← writeTo_all true l ks (k := k) (by rw [← HN.out]; omega), ← HU.out]
          rw [cat_h, cat_c]
          rfl
    · unfold V.sound at hs
      simp [h0, h1, h2, h3, h4, h5] at hs
open Go.RowKit
theorem refPathValid_is (p : List Stp) (w : World) (A : Option Addr) (c : Nat) (h : PLies w w.heap.size A c p) {r : Bool} (hr : pathB p = r) :
    Calls Tryz.prog 15 #[.slice A p.length c] w fun e w' => e = .returned (.bool r) ∧ Below w.heap.size w w' := by
  subst hr
  exact (refPathValid_any p w A c h).mono (by rintro e w' ⟨rfl, rfl⟩; exact ⟨rfl, Below.refl _ _⟩)
def refStepP (a b : Stp) : Int := if a = b then 0 else if (0 ≤ a.1 ∧ (b.1 < 0 ∨ a.1 < b.1)) ∨ (a.1 < 0 ∧ b.1 < 0 ∧ ltB a.2 b.2 = true) then -1 else 1
def refCmpP : List Stp → List Stp → Int
  | [], [] => 0
  | [], _ :: _ => -1
  | _ :: _, [] => 1
  | a :: p, b :: q => if a = b then refCmpP p q else refStepP a b
theorem cmpI_less {a b : Int} (h : a < b) : cmpI a b = -1 := by unfold cmpI; rw [if_pos h]
theorem cmpI_more {a b : Int} (h : b < a) : cmpI a b = 1 := by unfold cmpI; rw [if_neg (by omega), if_pos h]
theorem hold4 {i : Int} (h : 0 ≤ i) : holdI i = 4 := by unfold holdI; rw [if_neg (by omega)]
theorem hold5 {i : Int} (h : ¬ 0 ≤ i) : holdI i = 5 := by unfold holdI; rw [if_pos (by omega)]
theorem step_agree {a b : Stp} (ha : stepB a = true) (hb : stepB b = true) : cmpStepP a b = refStepP a b := by
  obtain ⟨i, t⟩ := a
  obtain ⟨j, u⟩ := b
  by_cases h : (i, t) = (j, u)
  · rw [refStepP, if_pos h, cmpStepP_zero]; exact h
  · rw [refStepP, if_neg h, cmpStepP]
    simp only
    by_cases hi : 0 ≤ i
    · by_cases hj : 0 ≤ j
      · have ht : t = ⟨#[]⟩ := by
          have : ¬ i = -1 := by omega
          simp [stepB, this] at ha; exact ha.2
        have hu : u = ⟨#[]⟩ := by
          have : ¬ j = -1 := by omega
          simp [stepB, this] at hb; exact hb.2
        have hij : ¬ i = j := by rintro rfl; rw [ht, hu] at h; exact h rfl
        rw [hold4 hi, hold4 hj, if_pos (cmpI_zero.2 rfl)]
        rw [if_neg (fun e => hij (cmpI_zero.1 e))]
        by_cases hl : i < j
        · rw [cmpI_less hl, if_pos (.inl ⟨hi, .inr hl⟩)]
        · rw [cmpI_more (by omega), if_neg]
          rintro (⟨-, h1 | h1⟩ | ⟨h1, -⟩) <;> omega
      · rw [hold4 hi, hold5 hj, show cmpI 4 5 = -1 from rfl, if_neg (by decide), if_pos (.inl ⟨hi, .inl (by omega)⟩)]
    · obtain ⟨rfl, -⟩ := step_text ha hi
      by_cases hj : 0 ≤ j
      · rw [hold5 hi, hold4 hj, show cmpI 5 4 = 1 from rfl, if_neg (by decide), if_neg]
        rintro (⟨h1, -⟩ | ⟨-, h1, -⟩) <;> omega
      · obtain ⟨rfl, -⟩ := step_text hb hj
        have htu : ¬ t = u := fun e => h (by rw [e])
        rw [if_pos (cmpI_zero.2 rfl), if_pos (cmpI_zero.2 rfl), cmpS]
        by_cases hl : ltB t u = true
        · rw [if_pos hl, if_pos (.inr ⟨by omega, by omega, hl⟩)]
        · rw [if_neg hl, if_neg (fun e => htu (eqT e)), if_neg]
          rintro (⟨h1, -⟩ | ⟨-, -, h1⟩)
          · omega
          · exact hl h1
theorem path_agree : ∀ {p q : List Stp}, (∀ s ∈ p, stepB s = true) → (∀ s ∈ q, stepB s = true) → cmpPathP p q = refCmpP p q
  | [], [], _, _ => rfl
  | [], _ :: _, _, _ => rfl
  | _ :: _, [], _, _ => rfl
  | a :: p, b :: q, hp, hq => by
    rw [cmpPathP, refCmpP, ← step_agree (hp a (by simp)) (hq b (by simp))]
    by_cases h : a = b
    · rw [if_pos (cmpStepP_zero.2 h), if_pos h, path_agree (fun x hx => hp x (by simp [hx])) (fun x hx => hq x (by simp [hx]))]
    · rw [if_neg (fun e => h (cmpStepP_zero.1 e)), if_neg h]
theorem refCmp_step {p q : List Stp} {j : Nat} {a b : Stp} (ha : p[j]? = some a) (hb : q[j]? = some b) : refCmpP (p.drop j) (q.drop j) = if a = b then refCmpP (p.drop (j + 1)) (q.drop (j + 1)) else refStepP a b := by
  rw [drop_at ha, drop_at hb, refCmpP]
theorem refCmp_end {p q : List Stp} {j n m : Nat} (hn : n = p.length) (hm : m = q.length) (h1 : j ≤ n) (h2 : j ≤ m) (h : ¬ (j < n ∧ j < m)) : refCmpP (p.drop j) (q.drop j) = if n < m then -1 else if m < n then 1 else 0 := by
  by_cases h3 : n ≤ j
  · rw [List.drop_eq_nil_of_le (by omega : p.length ≤ j)]
    by_cases h4 : m ≤ j
    · rw [List.drop_eq_nil_of_le (by omega : q.length ≤ j), refCmpP, if_neg (by omega), if_neg (by omega)]
    · obtain ⟨b, hb⟩ : ∃ b, q[j]? = some b := ⟨_, List.getElem?_eq_getElem (by omega)⟩
      rw [drop_at hb, refCmpP, if_pos (by omega)]
  · have h4 : m ≤ j := by omega
    obtain ⟨a, ha⟩ : ∃ a, p[j]? = some a := ⟨_, List.getElem?_eq_getElem (by omega)⟩
    rw [List.drop_eq_nil_of_le (by omega : q.length ≤ j), drop_at ha, refCmpP, if_neg (by omega), if_pos (by omega)]
theorem refCmp_same : ∀ p : List Stp, refCmpP p p = 0
  | [] => rfl
  | a :: p => by rw [refCmpP, if_pos rfl, refCmp_same p]
set_option maxRecDepth 100000 in
set_option maxHeartbeats 8000000 in
theorem refPathCompare_any (p q : List Stp) (w : World) (A A' : Option Addr) (c c' : Nat) (hp : PLies w w.heap.size A c p) (hq : PLies w w.heap.size A' c' q) :
    Calls Tryz.prog 16 #[.slice A p.length c, .slice A' q.length c'] w fun e w' => e = .returned (.int .i64 (refCmpP p q)) ∧ Below w.heap.size w w' := by
  obtain ⟨n, hn⟩ : ∃ n, n = p.length := ⟨_, rfl⟩
  obtain ⟨m, hm⟩ : ∃ n, n = q.length := ⟨_, rfl⟩
  have HN := Lib.hid hn
  have HM := Lib.hid hm
  have HP := Lib.hid fun W (hW : Below w.heap.size w W) => hp.on hW
  have HQ := Lib.hid fun W (hW : Below w.heap.size w W) => hq.on hW
  have hnl : n ≤ maxLen := by have := hp.1; have := hp.2.1; omega
  have hml : m ≤ maxLen := by have := hq.1; have := hq.2.1; omega
  unfold maxLen at hnl hml
  obtain ⟨R, hR⟩ : ∃ R, R = refCmpP p q := ⟨_, rfl⟩
  have HR0 := Lib.hid (show refCmpP (p.drop 0) (q.drop 0) = R by rw [hR]; rfl)
  rw [← hn, ← hm, ← hR]
  clear hp hq hn hm hR
  go_enter Tryz.func16, Tryz.ntmps16
  go_wp2_with fail
  go_loopw [5] (fun iv wr => ∃ j : Nat, iv = .int .i64 j ∧ j ≤ n ∧ j ≤ m ∧ Hid (Below w.heap.size w wr ∧ refCmpP (p.drop j) (q.drop j) = R)) (fun iv _ => n - (intOf iv).toNat)
  case atStart => exact ⟨0, rfl, Nat.zero_le _, Nat.zero_le _, Lib.hid ⟨Below.refl _ w, HR0.out⟩⟩
  case round =>
    obtain ⟨j, rfl, hj1, hj2, hI⟩ := hrel
    clear HR0
    by_cases hlt : j < n ∧ j < m
    · obtain ⟨hl1, hl2⟩ := hlt
      obtain ⟨a, ha⟩ : ∃ a, p[j]? = some a := ⟨_, List.getElem?_eq_getElem (by rw [← HN.out]; exact hl1)⟩
      obtain ⟨b, hb⟩ : ∃ b, q[j]? = some b := ⟨_, List.getElem?_eq_getElem (by rw [← HM.out]; exact hl2)⟩
      have HST := Lib.hid (refCmp_step ha hb)
      obtain ⟨ba, oa, rfl, hbA, a0, a1, -⟩ := (HP.out _ hI.out.1).at_ ha
      obtain ⟨bb, ob, rfl, hbB, b0, b1, -⟩ := (HQ.out _ hI.out.1).at_ hb
      have hji : (j : Int) < n := by omega
      have hji2 : (j : Int) < m := by omega
      have hj0 : 0 ≤ (j : Int) := by omega
      obtain ⟨i, t⟩ := a
      obtain ⟨i', t'⟩ := b
      clear ha hb
      simp only at a0 a1 b0 b1
      have n1 := World.new_ne wr _ a0
      have n2 := World.new_ne wr _ b0
      go_wp2_with fail
      go_region_held3 (fun w' => w'.cell? ⟨ba, oa + j * 2, none⟩ = some (.int .i64 i) ∧ w'.cell? ⟨ba, oa + j * 2 + 1, none⟩ = some (.string t) ∧ w'.cell? ⟨bb, ob + j * 2, none⟩ = some (.int .i64 i') ∧ w'.cell? ⟨bb, ob + j * 2 + 1, none⟩ = some (.string t'))
        (go_keep)
        (fail)
      all_goals
        clear n1 n2 a0 a1 b0 b1
        by_cases hab : ((i, t) : Stp) = (i', t')
        · have HN1 := Lib.hid (show refCmpP (p.drop (j + 1)) (q.drop (j + 1)) = R by have := HST.out; rw [if_pos hab] at this; rw [← this]; exact hI.out.2)
          obtain ⟨rfl, rfl⟩ := Prod.mk.inj hab
          clear hab
          go_wp2_with fail
          go_roundw
          case rel => exact ⟨j + 1, by go_num, by omega, by omega, Lib.hid ⟨by repeat (first | with_reducible exact hI.out.1.drew | with_reducible exact hI.out.1 | with_reducible refine below_al ?_ _ | with_reducible refine Below.drew ?_), HN1.out⟩⟩
          case measure => simp [intOf]; omega
        · have HN1 := Lib.hid (show R = refStepP (i, t) (i', t') by have := HST.out; rw [if_neg hab] at this; rw [← this]; exact hI.out.2.symm)
          have HV := Lib.hid (HN1.out.trans (show refStepP (i, t) (i', t') = if (0 ≤ i ∧ (i' < 0 ∨ i < i')) ∨ (i < 0 ∧ i' < 0 ∧ ltB t t' = true) then -1 else 1 by rw [refStepP, if_neg hab]))
          have HB := Lib.hid (show Below w.heap.size w ((wr.alloc (.cells #[.int .i64 i, .string t] 46)).alloc (.cells #[.int .i64 i', .string t'] 46)).drew ∧ Below w.heap.size w ((wr.alloc (.cells #[.int .i64 i', .string t'] 46)).alloc (.cells #[.int .i64 i, .string t] 46)).drew from ⟨(below_al (below_al hI.out.1 _) _).drew, (below_al (below_al hI.out.1 _) _).drew⟩)
          obtain ⟨b, hb⟩ : ∃ b, Op.bytesLess t.toList t'.toList = b := ⟨_, rfl⟩
          have HLT := Lib.hid (show ltB t t' = b from hb)
          have HT := Lib.hid (show i = i' → (t.toList == t'.toList) = false from fun e => by
            rw [beq_eq_false_iff_ne]
            exact fun e2 => hab (by rw [e, eqT (beq_iff_eq.2 e2)]))
          clear hab HN1 HST
          by_cases hii : i = i'
          · have kt := HT.out hii
            subst hii
            by_cases h0 : 0 ≤ i
            · go_wp2_with fail
              go_ret
              exact ⟨by (rw [HV.out, if_neg (by omega)]) <;> rfl, by first | exact HB.out.1 | exact HB.out.2⟩
            · have h1 : i < 0 := by omega
              cases b
              · go_wp2_with fail
                go_ret
                exact ⟨by (rw [HV.out, if_neg (by rw [HLT.out]; simp <;> omega)]) <;> rfl, by first | exact HB.out.1 | exact HB.out.2⟩
              · go_wp2_with fail
                go_ret
                exact ⟨by rw [HV.out, if_pos (.inr ⟨h1, h1, HLT.out⟩)]; rfl, by first | exact HB.out.1 | exact HB.out.2⟩
          · have ki : (i == i') = false := by simpa using hii
            have HII := Lib.hid hii
            clear hii
            by_cases h0 : 0 ≤ i
            · by_cases h1 : i' < 0
              · go_wp2_with fail
                go_ret
                exact ⟨by rw [HV.out, if_pos (.inl ⟨h0, .inl h1⟩)]; rfl, by first | exact HB.out.1 | exact HB.out.2⟩
              · by_cases h2 : i < i'
                · go_wp2_with fail
                  go_ret
                  exact ⟨by rw [HV.out, if_pos (.inl ⟨h0, .inr h2⟩)]; rfl, by first | exact HB.out.1 | exact HB.out.2⟩
                · go_wp2_with fail
                  go_ret
                  exact ⟨by (rw [HV.out, if_neg (by omega)]) <;> rfl, by first | exact HB.out.1 | exact HB.out.2⟩
            · have h3 : i < 0 := by omega
              by_cases h1 : i' < 0
              · cases b
                · go_wp2_with fail
                  go_ret
                  exact ⟨by (rw [HV.out, if_neg (by rw [HLT.out]; simp <;> omega)]) <;> rfl, by first | exact HB.out.1 | exact HB.out.2⟩
                · go_wp2_with fail
                  go_ret
                  exact ⟨by rw [HV.out, if_pos (.inr ⟨h3, h1, HLT.out⟩)]; rfl, by first | exact HB.out.1 | exact HB.out.2⟩
              · go_wp2_with fail
                go_ret
                exact ⟨by (rw [HV.out, if_neg (by omega)]) <;> rfl, by first | exact HB.out.1 | exact HB.out.2⟩
    · have HE := Lib.hid (show R = if n < m then -1 else if m < n then 1 else 0 by rw [← hI.out.2]; exact refCmp_end HN.out HM.out hj1 hj2 hlt)
      by_cases hl1 : j < n
      · have hji : (j : Int) < n := by omega
        have hji2 : ¬ (j : Int) < m := by omega
        have hnm : ¬ (n : Int) < m := by omega
        have hmn : (m : Int) < n := by omega
        go_wp2_with fail
        go_ret
        exact ⟨by (rw [HE.out, if_neg (by omega), if_pos (by omega)]) <;> rfl, hI.out.1⟩
      · have hji : ¬ (j : Int) < n := by omega
        by_cases h1 : (n : Int) < m
        · go_wp2_with fail
          go_ret
          exact ⟨by rw [HE.out, if_pos (by omega)]; rfl, hI.out.1⟩
        · by_cases h2 : (m : Int) < n
          · omega
          · go_wp2_with fail
            go_ret
            exact ⟨by (rw [HE.out, if_neg (by omega), if_neg (by omega)]) <;> rfl, hI.out.1⟩
open Go.RowKit
theorem cat4 (u d : List UInt8) : (⟨u.toArray⟩ ++ ⟨#[91]⟩ ++ ⟨d.toArray⟩ ++ ⟨#[93]⟩ : ByteArray) = ⟨(u ++ 91 :: (d ++ [93])).toArray⟩ := by
  rw [ct_c, ct_l, ct_c]; simp
theorem cat2 (u : List UInt8) (t : ByteArray) : (⟨u.toArray⟩ ++ ⟨#[46]⟩ ++ t : ByteArray) = ⟨(u ++ 46 :: t.data.toList).toArray⟩ := by
  rw [ct_c]
  obtain ⟨⟨l⟩⟩ := t
  rw [ct_l]; simp
set_option maxRecDepth 100000 in
set_option maxHeartbeats 4000000 in
theorem refPathWritten_any (p : List Stp) (w : World) (A : Option Addr) (c : Nat) (hv : pathB p = true) (h : PLies w w.heap.size A c p) :
    Calls Tryz.prog 34 #[.slice A p.length c] w fun e w' => e = .returned (.string ⟨(pathT p).toArray⟩) ∧ Below w.heap.size w w' := by
  obtain ⟨n, hn⟩ : ∃ n, n = p.length := ⟨_, rfl⟩
  have HN := Lib.hid hn
  obtain ⟨hp6, hst⟩ := path_valid hv
  have hn6 : n ≤ 6 := by omega
  have HST := Lib.hid hst
  have HPL := Lib.hid fun W (hW : Below w.heap.size w W) => h.on hW
  rw [← hn]
  clear h hn hv hp6 hst
  go_enter Tryz.func34, Tryz.ntmps34
  go_wp2_with fail
  go_loopw [3, 4] (fun sv iv wr => ∃ (j : Nat) (u : List UInt8), sv = .string ⟨u.toArray⟩ ∧ iv = .int .i64 j ∧ j ≤ n ∧ u.length ≤ 1 + 210 * j ∧ Hid (Below w.heap.size w wr ∧ u = 36 :: (p.take j).flatMap stepT)) (fun _ iv _ => n - (intOf iv).toNat)
  case atStart => exact ⟨0, [36], rfl, rfl, Nat.zero_le _, by simp, Lib.hid ⟨Below.refl _ w, by simp⟩⟩
  case round =>
    obtain ⟨j, u, rfl, rfl, hj, hul, hI⟩ := hrel
    by_cases hlt : j < n
    · obtain ⟨s, hs⟩ : ∃ s, p[j]? = some s := ⟨_, List.getElem?_eq_getElem (by rw [← HN.out]; exact hlt)⟩
      obtain ⟨b, o, rfl, hbB, e0, e1, hsz⟩ := (HPL.out _ hI.out.1).at_ hs
      have hsv := HST.out s (List.mem_of_getElem? hs)
      have HX := Lib.hid (pathT_step hs hI.out.2)
      have hsl := stepT_len hsv
      have hjn : (j : Int) < n := by omega
      have hj0 : (0 : Int) ≤ j := by omega
      obtain ⟨i, t⟩ := s
      simp only at e0 e1 hsz
      clear hs
      by_cases h0 : 0 ≤ i
      · have h9 := step_index hsv h0
        obtain ⟨d, hd⟩ : ∃ d, d = Lib.itoa i := ⟨_, rfl⟩
        have HD := Lib.hid fun W => show Calls Tryz.prog 61 #[.int .i64 i] W fun e w' => e = .returned (.string ⟨d.toArray⟩) ∧ Below W.heap.size W w' by
          rw [hd]; exact digits_any 100 i W (by omega) (by omega) (by omega)
        have hv : stepT (i, t) = 91 :: (d ++ [93]) := by rw [hd]; simp [stepT, h0]
        rw [hv] at HX hsl
        have hdl : d.length ≤ 208 := by simp at hsl; omega
        clear hd hv hsv hsl
        go_wp2_with fail
        refine (HD.out _).mono ?_
        rintro e w1 ⟨rfl, h1⟩
        have HB1 := Lib.hid (below_on hI.out.1 h1)
        clear h1 e0 e1
        go_wp2_with fail
        go_roundw
        case rel => exact ⟨j + 1, _, by rw [cat4], by go_num, by omega, by simp; omega, Lib.hid ⟨HB1.out, HX.out⟩⟩
        case measure => simp [intOf]; omega
      · obtain ⟨hi1, htx⟩ := step_text hsv h0
        have HWD := Lib.hid fun W => (refWord_any t W hsz).mono (R' := fun e w' => e = .returned (.bool (wordB t.data.toList)) ∧ W = w') fun _ _ h => ⟨h.1, h.2.symm⟩
        obtain ⟨b2, hb2⟩ : ∃ b, wordB t.data.toList = b := ⟨_, rfl⟩
        rw [hb2] at HWD
        have hts := text_size htx
        cases b2
        · obtain ⟨d, hd⟩ : ∃ d, d = quoteB t.data.toList := ⟨_, rfl⟩
          have HD := Lib.hid fun W => show Calls Tryz.prog 63 #[.string t] W fun e w' => e = .returned (.string ⟨d.toArray⟩) ∧ Below W.heap.size W w' by
            rw [hd]; exact refQuoted_any t W (by omega)
          have hv : stepT (i, t) = 91 :: (d ++ [93]) := by rw [hd]; simp [stepT, h0, hb2]
          rw [hv] at HX hsl
          have hdl : d.length ≤ 208 := by simp at hsl; omega
          clear hd hv hsv hsl htx hb2 hi1
          go_wp2_with fail
          refine (HWD.out _).mono ?_
          rintro e w1 ⟨rfl, rfl⟩
          go_wp2_with fail
          refine (HD.out _).mono ?_
          rintro e w1 ⟨rfl, h1⟩
          have HB1 := Lib.hid (below_on hI.out.1 h1)
          clear h1 e0 e1
          go_wp2_with fail
          go_roundw
          case rel => exact ⟨j + 1, _, by rw [cat4], by go_num, by omega, by simp; omega, Lib.hid ⟨HB1.out, HX.out⟩⟩
          case measure => simp [intOf]; omega
        · have hv : stepT (i, t) = 46 :: t.data.toList := by simp [stepT, h0, hb2]
          rw [hv] at HX hsl
          clear hv hsv hsl htx hb2 hi1
          go_wp2_with fail
          refine (HWD.out _).mono ?_
          rintro e w1 ⟨rfl, rfl⟩
          go_wp2_with fail
          go_roundw
          case rel => exact ⟨j + 1, _, by rw [cat2], by go_num, by omega, by simp; omega, Lib.hid ⟨hI.out.1, HX.out⟩⟩
          case measure => simp [intOf]; omega
    · have hjn : ¬ ((j : Int) < n) := by omega
      have HT := Lib.hid (show u = pathT p by
        have := hI.out.2
        rw [List.take_of_length_le (by have := HN.out; omega)] at this
        exact this)
      go_wp2_with fail
      go_ret
      exact ⟨by rw [← HT.out]; rfl, hI.out.1⟩
set_option maxHeartbeats 1000000 in
theorem refPathText_any (p : List Stp) (w : World) (A : Option Addr) (c : Nat) (h : PLies w w.heap.size A c p) :
    Calls Tryz.prog 11 #[.slice A p.length c] w fun e w' => e = .returned (.tuple #[.string (pathTx p).1, .int .i64 (pathTx p).2]) ∧ Below w.heap.size w w' := by
  obtain ⟨b, hb⟩ : ∃ b, pathB p = b := ⟨_, rfl⟩
  have HV := Lib.hid (refPathValid_is p w A c h hb)
  have HW := Lib.hid fun (hb : pathB p = true) W (hW : Below w.heap.size w W) => refPathWritten_any p W A c hb (h.on hW)
  obtain ⟨n, hn⟩ : ∃ n, n = p.length := ⟨_, rfl⟩
  rw [← hn] at HV HW
  rw [← hn]
  cases b
  · rw [show pathTx p = (⟨#[]⟩, 1) by rw [pathTx, if_neg (by rw [hb]; simp)]]
    clear h hb hn
    go_enter Tryz.func11, Tryz.ntmps11
    go_wp2_with fail
    refine (HV.out).mono ?_
    rintro e w1 ⟨rfl, h1⟩
    have HB1 := Lib.hid h1
    clear h1
    go_wp2_with fail
    go_ret2
    exact ⟨rfl, HB1.out⟩
  · rw [show pathTx p = (⟨(pathT p).toArray⟩, 0) by rw [pathTx, if_pos hb]]
    have HB := Lib.hid hb
    clear h hb hn
    go_enter Tryz.func11, Tryz.ntmps11
    go_wp2_with fail
    refine (HV.out).mono ?_
    rintro e w1 ⟨rfl, h1⟩
    have HB1 := Lib.hid h1
    clear h1
    go_wp2_with fail
    refine (HW.out HB.out _ HB1.out).mono ?_
    rintro e w2 ⟨rfl, h2⟩
    have HB2 := Lib.hid (below_on HB1.out h2)
    clear h2
    go_wp2_with fail
    go_ret2
    exact ⟨rfl, HB2.out⟩
def prefixV (l : List UInt8) : Option (V × List UInt8) := match valueR false 6 l with
  | none => none
  | some (x, r) => if x.valid = true ∧ x.write ++ r = l then some (x, r) else none
theorem valueR_true {x : V} (h : x.valid = true) {u : List UInt8} (hu : noDig u) : valueR true 6 (x.write ++ u) = some (x, u) := by
  obtain ⟨hok, h60⟩ := valid_nodes h
  have hd : x.depth ≤ 6 := by
    unfold V.valid V.fits at h
    simp only [Bool.and_eq_true, decide_eq_true_eq] at h
    exact h.2
  have h1 := value_back 6 x 0 u hok hd (by omega) hu
  have h2 := value_agree 6 (x.write ++ u) 0
  rw [h1] at h2
  cases hr : valueR true 6 (x.write ++ u) with
  | none => rw [hr] at h2; cases h2
  | some q =>
    obtain ⟨y, r⟩ := q
    rw [hr] at h2
    simp only at h2
    split at h2
    · have h3 := Option.some.inj h2
      rw [Prod.mk.injEq, Prod.mk.injEq] at h3
      rw [h3.1, h3.2.1]
    · cases h2
theorem valueR_flag {l : List UInt8} {c : UInt8} {r : List UInt8} (h : l = c :: r) (h32 : ¬ c = 32) (h91 : ¬ c = 91) (h123 : ¬ c = 123) (L : Nat) : valueR false (L + 1) l = valueR true (L + 1) l := by
  subst h
  have e1 : skipB false (c :: r) = c :: r := rfl
  have e2 : skipB true (c :: r) = c :: r := skip_head h32 r
  rw [valueR, valueR, e1, e2]
  simp only [h91, h123, if_false]
theorem prefixV_of {x : V} (h : x.valid = true) {c : UInt8} {r : List UInt8} (hx : x.write = c :: r) (h32 : ¬ c = 32) (h91 : ¬ c = 91) (h123 : ¬ c = 123) {u : List UInt8} (hu : noDig u) : prefixV (x.write ++ u) = some (x, u) := by
  rw [prefixV, valueR_flag (l := x.write ++ u) (c := c) (r := r ++ u) (by rw [hx]; rfl) h32 h91 h123, valueR_true h hu]
  simp [h]
theorem prefixV_int {i : Int} (h0 : 0 ≤ i) (h9 : i ≤ 99) {u : List UInt8} (hu : noDig u) : prefixV (Lib.itoa i ++ u) = some (leaf 2 i ⟨#[]⟩, u) := by
  have hw : (leaf 2 i ⟨#[]⟩).write = Lib.itoa i := by simp [leaf, V.write]
  obtain ⟨d, r, g1, g2, g3⟩ := dec_head i.toNat
  have hi : Lib.itoa i = UInt8.ofNat (48 + d) :: r := by rw [← g2]; unfold Lib.itoa; rw [if_neg (by omega)]
  have hv := (dig_val d g1).2
  rw [← hw]
  refine prefixV_of (leaf2_valid h0 h9) (by rw [hw]; exact hi) ?_ ?_ ?_ hu
  · intro e; rw [e] at hv; have : (32 : UInt8).toNat = 32 := rfl; omega
  · intro e; rw [e] at hv; have : (91 : UInt8).toNat = 91 := rfl; omega
  · intro e; rw [e] at hv; have : (123 : UInt8).toNat = 123 := rfl; omega
theorem prefixV_text {t : ByteArray} (h : textB t.data.toList = true) {u : List UInt8} (hu : noDig u) : prefixV (quoteB t.data.toList ++ u) = some (leaf 3 0 t, u) := by
  have hw : (leaf 3 0 t).write = quoteB t.data.toList := by simp [leaf, V.write]
  rw [← hw]
  exact prefixV_of (x := leaf 3 0 t) (c := 34) (r := t.data.toList.flatMap escB ++ [34]) (by rw [text_valid3]; exact h) (by rw [hw]; rfl) (by decide) (by decide) (by decide) hu
def ofB (x : V) : Option Stp := if x.kind = 2 then some (max x.int (-2), ⟨#[]⟩) else if x.kind = 3 then some (-1, x.text) else none
def refLoopP : Nat → List UInt8 → List Stp → Option (List Stp × List UInt8)
  | 0, l, acc => some (acc, l)
  | f + 1, l, acc =>
    if 6 < acc.length then some (acc, l)
    else match l with
    | [] => some (acc, [])
    | c :: r =>
      if c = 46 then refLoopP f (r.dropWhile wordcB) (acc ++ [(-1, ⟨(r.takeWhile wordcB).toArray⟩)])
      else if c = 91 then
        match prefixV r with
        | none => none
        | some (x, r2) =>
          if r2.head? = some 93 then
            match ofB x with
            | none => none
            | some s => refLoopP f r2.tail (acc ++ [s])
          else none
      else some (acc, l)
theorem take_word {l u : List UInt8} (h : ∀ c ∈ l, wordcB c = true) (hu : sepU u) : (l ++ u).takeWhile wordcB = l ∧ (l ++ u).dropWhile wordcB = u := by
  induction l with
  | nil =>
    rcases hu with rfl | ⟨c, r, rfl, hc⟩
    · exact ⟨rfl, rfl⟩
    · have : wordcB c = false := by rcases hc with rfl | rfl <;> decide
      simp [this]
  | cons c r ih =>
    have hc := h c (by simp)
    have := ih fun x hx => h x (by simp [hx])
    simp [hc, this.1, this.2]
theorem noDig_93 (u : List UInt8) : noDig (93 :: u) := noDig_cons (by decide) u
theorem loop_step {s : Stp} (hs : stepB s = true) {u : List UInt8} (hu : sepU u) {acc : List Stp} (ha : acc.length ≤ 6) (f : Nat) : refLoopP (f + 1) (stepT s ++ u) acc = refLoopP f u (acc ++ [s]) := by
  obtain ⟨i, t⟩ := s
  unfold stepT
  simp only
  by_cases h0 : 0 ≤ i
  · have h9 := step_index hs h0
    have hi : ¬ i = -1 := by omega
    have ht : t = ⟨#[]⟩ := by
      simp [stepB, hi] at hs
      exact hs.2
    subst ht
    rw [if_pos h0, List.cons_append, refLoopP, if_neg (by omega)]
    simp only
    rw [if_neg (by decide), if_pos trivial, List.append_assoc, List.singleton_append, prefixV_int h0 h9 (noDig_93 _)]
    have hm : ofB (leaf 2 i ⟨#[]⟩) = some (i, ⟨#[]⟩) := by
      have : max i (-2) = i := by omega
      simp [ofB, leaf, V.kind, V.int, this]
    simp only [List.head?_cons, if_true, List.tail_cons, hm]
  · rw [if_neg h0]
    obtain ⟨rfl, htx⟩ := step_text hs h0
    by_cases hw : wordB t.data.toList = true
    · rw [if_pos hw, List.cons_append, refLoopP, if_neg (by omega)]
      simp only
      obtain ⟨e1, e2⟩ := take_word (wordB_all hw) hu
      rw [if_pos trivial, e1, e2, ← ba_of (t := t) rfl]
    · rw [if_neg hw, List.cons_append, refLoopP, if_neg (by omega)]
      simp only
      rw [if_neg (by decide), if_pos trivial, List.append_assoc, List.singleton_append, prefixV_text htx (noDig_93 _)]
      have hm : ofB (leaf 3 0 t) = some (-1, t) := by simp [ofB, leaf, V.kind, V.text]
      simp only [List.head?_cons, if_true, List.tail_cons, hm]
theorem loop_all : ∀ (p : List Stp) (f : Nat) (acc : List Stp), (∀ s ∈ p, stepB s = true) → acc.length + p.length ≤ 6 → p.length < f → refLoopP f (p.flatMap stepT) acc = some (acc ++ p, [])
  | [], 0, _, _, _, h => by simp at h
  | [], f + 1, acc, _, ha, _ => by
    rw [List.flatMap_nil, refLoopP, if_neg (by simp at ha; omega)]
    simp
  | s :: r, 0, _, _, _, h => by simp at h
  | s :: r, f + 1, acc, h, ha, hf => by
    have hr : ∀ s ∈ r, stepB s = true := fun x hx => h x (by simp [hx])
    simp only [List.length_cons] at ha hf
    rw [List.flatMap_cons, loop_step (h s (by simp)) (sep_flat hr) (by omega), loop_all r f (acc ++ [s]) hr (by simp; omega) (by omega)]
    simp
def refPathP (l : List UInt8) : Option (List Stp) :=
  if l.head? = some 36 then
    match refLoopP (l.length + 1) l.tail [] with
    | none => none
    | some (p, r) => if (pathB p = true ∧ pathT p ++ r = l) ∧ r = [] then some p else none
  else none
theorem parse_is {l : List UInt8} {p : List Stp} (h : parsePathP l = some p) : pathB p = true ∧ pathT p = l := by
  rw [parsePathP] at h
  split at h
  · cases h
  · rename_i q _
    by_cases hq : pathB q = true ∧ pathT q = l
    · rw [if_pos hq] at h
      cases h
      exact hq
    · rw [if_neg hq] at h; cases h
theorem refPath_is (l : List UInt8) : refPathP l = parsePathP l := by
  cases h : parsePathP l with
  | some p =>
    obtain ⟨hp, rfl⟩ := parse_is h
    obtain ⟨h6, hs⟩ := path_valid hp
    have hlen : p.length ≤ (p.flatMap stepT).length := by
      clear h hp h6
      induction p with
      | nil => simp
      | cons s r ih =>
        rw [List.flatMap_cons, List.length_append, List.length_cons]
        have : 1 ≤ (stepT s).length := by unfold stepT; split <;> (try split) <;> simp
        have := ih fun x hx => hs x (by simp [hx])
        omega
    rw [refPathP, if_pos (by rfl)]
    have := loop_all p ((pathT p).length + 1) [] hs (by simpa using h6) (by unfold pathT; simp only [List.length_cons]; omega)
    rw [show (pathT p).tail = p.flatMap stepT from rfl, this]
    simp [hp]
  | none =>
    rw [refPathP]
    split
    · split
      · rfl
      · rename_i q r _
        split
        · rename_i hq
          obtain ⟨⟨h1, h2⟩, rfl⟩ := hq
          rw [List.append_nil] at h2
          rw [← h2, parse_path h1] at h
          cases h
        · rfl
    · rfl
open Go.RowKit
set_option maxHeartbeats 2000000 in
theorem letter_any (c : UInt8) (w : World) :
    Calls Tryz.prog 67 #[.int .u8 c.toNat] w fun e w' => e = .returned (.bool (wordcB c)) ∧ w = w' := by
  obtain ⟨n, hn⟩ : ∃ n, n = c.toNat := ⟨_, rfl⟩
  have HW := Lib.hid (show wordcB c = (((decide (97 ≤ n) && decide (n ≤ 122)) || (decide (48 ≤ n) && decide (n ≤ 57))) || n == 95) by rw [hn]; rfl)
  rw [← hn]
  clear hn
  by_cases h1 : (97 : Int) ≤ n
  · by_cases h2 : (n : Int) ≤ 122
    · go_enter Tryz.func67, Tryz.ntmps67
      go_wp2_with fail
      go_ret
      exact ⟨by rw [HW.out]; simp [show 97 ≤ n by omega, show n ≤ 122 by omega], rfl⟩
    · have h3 : (48 : Int) ≤ n := by omega
      have h4 : ¬ (n : Int) ≤ 57 := by omega
      have h5 : ((n : Int) == 95) = false := by rw [beq_eq_false_iff_ne]; omega
      go_enter Tryz.func67, Tryz.ntmps67
      go_wp2_with fail
      go_ret
      exact ⟨by rw [HW.out]; simp [show ¬ n ≤ 122 by omega, show ¬ n ≤ 57 by omega, show ¬ n = 95 by omega], rfl⟩
  · by_cases h3 : (48 : Int) ≤ n
    · by_cases h4 : (n : Int) ≤ 57
      · go_enter Tryz.func67, Tryz.ntmps67
        go_wp2_with fail
        go_ret
        exact ⟨by rw [HW.out]; simp [show 48 ≤ n by omega, show n ≤ 57 by omega], rfl⟩
      · obtain ⟨b, hb⟩ : ∃ b, ((n : Int) == 95) = b := ⟨_, rfl⟩
        have HB := Lib.hid (show (n == 95) = b by
          rw [← hb, Bool.eq_iff_iff, beq_iff_eq, beq_iff_eq]; omega)
        go_enter Tryz.func67, Tryz.ntmps67
        go_wp2_with fail
        go_ret
        exact ⟨by rw [HW.out, HB.out]; simp [show ¬ 97 ≤ n by omega, show ¬ n ≤ 57 by omega], rfl⟩
    · have h5 : ((n : Int) == 95) = false := by rw [beq_eq_false_iff_ne]; omega
      go_enter Tryz.func67, Tryz.ntmps67
      go_wp2_with fail
      go_ret
      exact ⟨by rw [HW.out]; simp [show ¬ 97 ≤ n by omega, show ¬ 48 ≤ n by omega, show ¬ n = 95 by omega], rfl⟩
def LetAt (s : ByteArray) (k m : Nat) : Prop := (sfx s k).takeWhile wordcB = (s.extract k m).data.toList ++ (sfx s m).takeWhile wordcB ∧ (sfx s k).dropWhile wordcB = (sfx s m).dropWhile wordcB
theorem ext_cut (s : ByteArray) (k m : Nat) : (s.extract k m).data.toList = (s.data.toList.drop k).take (m - k) := by
  simp
theorem LetAt.start (s : ByteArray) (k : Nat) : LetAt s k k := by
  refine ⟨?_, rfl⟩
  rw [ext_cut, Nat.sub_self, List.take_zero, List.nil_append]
theorem LetAt.next {s : ByteArray} {k m : Nat} (h : LetAt s k m) (hk : k ≤ m) (hm : m < s.size) (hc : wordcB s[m] = true) : LetAt s k (m + 1) := by
  obtain ⟨h1, h2⟩ := h
  have e : (s.extract k (m + 1)).data.toList = (s.extract k m).data.toList ++ [s[m]] := by
    rw [ext_cut, ext_cut, show m + 1 - k = (m - k) + 1 by omega, List.take_add_one, List.getElem?_drop, show k + (m - k) = m by omega]
    have : s.data.toList[m]? = some s[m] := by
      rw [List.getElem?_eq_getElem (by rw [size_list]; exact hm)]
      rfl
    rw [this]; rfl
  refine ⟨?_, ?_⟩
  · rw [h1, sfx_cons hm, List.takeWhile_cons, if_pos hc, e, List.append_assoc]; rfl
  · rw [h2, sfx_cons hm, List.dropWhile_cons, if_pos hc]
theorem LetAt.stop {s : ByteArray} {k m : Nat} (h : LetAt s k m) (hm : ∀ h : m < s.size, wordcB s[m] = false) : (sfx s k).takeWhile wordcB = (s.extract k m).data.toList ∧ (sfx s k).dropWhile wordcB = sfx s m := by
  obtain ⟨h1, h2⟩ := h
  by_cases hlt : m < s.size
  · have := hm hlt
    rw [h1, h2, sfx_cons hlt, List.takeWhile_cons, List.dropWhile_cons, this]
    simp
  · rw [h1, h2, sfx_nil hlt]
    simp
theorem refLoop_over {f : Nat} {l : List UInt8} {acc : List Stp} (h : 6 < acc.length) : refLoopP (f + 1) l acc = some (acc, l) := by
  cases l <;> rw [refLoopP, if_pos h]
theorem refLoop_nil {f : Nat} {acc : List Stp} : refLoopP (f + 1) [] acc = some (acc, []) := by
  rw [refLoopP]; split <;> rfl
theorem refLoop_cons {f : Nat} {c : UInt8} {r : List UInt8} {acc : List Stp} (h : ¬ 6 < acc.length) : refLoopP (f + 1) (c :: r) acc =
    if c = 46 then refLoopP f (r.dropWhile wordcB) (acc ++ [(-1, ⟨(r.takeWhile wordcB).toArray⟩)])
    else if c = 91 then (match prefixV r with
      | none => none
      | some (x, r2) => if r2.head? = some 93 then (match ofB x with | none => none | some s => refLoopP f r2.tail (acc ++ [s])) else none)
    else some (acc, c :: r) := by
  rw [refLoopP, if_neg h] <;> rfl
structure PrAt (w : World) (s : ByteArray) (R : Option (List Stp × List UInt8)) (k : Nat) (v : Value) (acc : List Stp) (W : World) : Prop where
  old : Below w.heap.size w W
  own : W.ownsRow w.heap.size 46 2 v acc.length (acc.flatMap stepCs)
  txt : ∀ x ∈ acc, x.2.size ≤ 1000000
  res : ∃ f, s.size - k < f ∧ R = refLoopP f (sfx s k) acc
section
variable {w W W' : World} {s : ByteArray} {R : Option (List Stp × List UInt8)} {k : Nat} {v v' : Value} {acc : List Stp}
theorem PrAt.start (hR : R = refLoopP (s.size + 1) (sfx s 1) []) : PrAt w s R 1 (.slice none 0 0) [] w :=
  ⟨Below.refl _ w, World.ownsRow_nil _ _ _ _, (by simp), ⟨s.size + 1, by omega, hR⟩⟩
theorem PrAt.on (h : PrAt w s R k v acc W) (hb : Below W.heap.size W W') : PrAt w s R k v acc W' := ⟨below_on h.old hb, own_on h.own hb, h.txt, h.res⟩
theorem PrAt.over (h : PrAt w s R k v acc W) (hk : ¬ k < s.size ∨ 6 < acc.length) : R = some (acc, sfx s k) := by
  obtain ⟨f, hf, hr⟩ := h.res
  cases f with
  | zero => omega
  | succ f =>
    rw [hr]
    by_cases h6 : 6 < acc.length
    · rw [refLoop_over h6]
    · rw [sfx_nil (hk.resolve_right h6), refLoop_nil]
theorem PrAt.out_ (h : PrAt w s R k v acc W) (hk : k < s.size) (h1 : ¬ s[k] = 46) (h2 : ¬ s[k] = 91) : R = some (acc, sfx s k) := by
  obtain ⟨f, hf, hr⟩ := h.res
  cases f with
  | zero => omega
  | succ f =>
    rw [hr]
    by_cases h6 : 6 < acc.length
    · rw [refLoop_over h6]
    · rw [sfx_cons hk, refLoop_cons h6, if_neg h1, if_neg h2]
theorem PrAt.word (h : PrAt w s R k v acc W) (hk : k < s.size) (h6 : ¬ 6 < acc.length) (hc : s[k] = 46) {m : Nat} (hm1 : k + 1 ≤ m) (hm2 : m ≤ s.size) {t : ByteArray} (ht : t = s.extract (k + 1) m)
    (hl : (sfx s (k + 1)).takeWhile wordcB = (s.extract (k + 1) m).data.toList ∧ (sfx s (k + 1)).dropWhile wordcB = sfx s m) (hs : t.size ≤ 1000000)
    (hb : Below w.heap.size w W') (ho : W'.ownsRow w.heap.size 46 2 v' (acc.length + 1) (acc.flatMap stepCs ++ stepCs (-1, t))) : PrAt w s R m v' (acc ++ [(-1, t)]) W' := by
  obtain ⟨f, hf, hr⟩ := h.res
  refine ⟨hb, ?_, ?_, ?_⟩
  · rw [List.length_append, List.flatMap_append]; simpa using ho
  · intro x hx
    rcases List.mem_append.1 hx with h1 | h1
    · exact h.txt x h1
    · rw [List.mem_singleton.1 h1]; exact hs
  · cases f with
    | zero => omega
    | succ f =>
      refine ⟨f, by omega, ?_⟩
      rw [hr, sfx_cons hk, refLoop_cons h6, if_pos hc, hl.1, hl.2, ← ht, ← ba_of (t := t) rfl]
theorem PrAt.bad (h : PrAt w s R k v acc W) (hk : k < s.size) (h6 : ¬ 6 < acc.length) (hc : s[k] = 91)
    (hn : prefixV (sfx s (k + 1)) = none ∨ ∃ x r, prefixV (sfx s (k + 1)) = some (x, r) ∧ (¬ r.head? = some 93 ∨ ofB x = none)) : R = none := by
  obtain ⟨f, hf, hr⟩ := h.res
  have n1 : ¬ s[k] = 46 := by rw [hc]; decide
  cases f with
  | zero => omega
  | succ f =>
    rw [hr, sfx_cons hk, refLoop_cons h6, if_neg n1, if_pos hc]
    rcases hn with hn | ⟨x, r, hn, h2⟩
    · rw [hn]
    · rw [hn]
      simp only
      rcases h2 with h2 | h2
      · rw [if_neg h2]
      · split
        · rw [h2]
        · rfl
theorem PrAt.item (h : PrAt w s R k v acc W) (hk : k < s.size) (h6 : ¬ 6 < acc.length) (hc : s[k] = 91) {m : Nat} {x : V} {st : Stp} (hm : k + 1 ≤ m) (hp : prefixV (sfx s (k + 1)) = some (x, sfx s m)) (hn : m < s.size) (h93 : s[m] = 93) (ho : ofB x = some st) (hs : st.2.size ≤ 1000000)
    (hb : Below w.heap.size w W') (hw : W'.ownsRow w.heap.size 46 2 v' (acc.length + 1) (acc.flatMap stepCs ++ stepCs st)) : PrAt w s R (m + 1) v' (acc ++ [st]) W' := by
  obtain ⟨f, hf, hr⟩ := h.res
  have n1 : ¬ s[k] = 46 := by rw [hc]; decide
  refine ⟨hb, ?_, ?_, ?_⟩
  · rw [List.length_append, List.flatMap_append]; simpa using hw
  · intro y hy
    rcases List.mem_append.1 hy with h1 | h1
    · exact h.txt y h1
    · rw [List.mem_singleton.1 h1]; exact hs
  · cases f with
    | zero => omega
    | succ f =>
      refine ⟨f, by omega, ?_⟩
      rw [hr, sfx_cons hk, refLoop_cons h6, if_neg n1, if_pos hc, hp]
      simp only
      rw [sfx_cons hn, h93]
      simp only [List.head?_cons, if_true, List.tail_cons, ho]
theorem PrAt.path (h : PrAt w s R k v acc W) : ∃ A c, v = .slice A acc.length c ∧ PLies W W.heap.size A c acc := by
  obtain ⟨hl, ⟨rfl, h0⟩ | ⟨g, cap, cur, rfl, hbg, hb, hn, hm, hs, ht⟩⟩ := h.own
  · exact ⟨none, 0, by rw [h0], by omega, by simp [maxLen], .inl (List.eq_nil_of_length_eq_zero h0)⟩
  · have hB : BlockIs W g 46 cur := hb
    refine ⟨some ⟨g, 0, none⟩, cap, rfl, hn, hm, .inr ⟨g, 0, rfl, hB.lt, steps_from acc 0 h.txt fun j v hj => ?_⟩⟩
    rw [Nat.zero_add]
    refine (hB.cell j).trans ?_
    rw [← ht, List.getElem?_take] at hj
    split at hj
    · rw [← Array.getElem?_toList]; exact hj
    · cases hj
end
def VPPost (R : Option (V × List UInt8)) (s : ByteArray) (w : World) (e : Ending) (w' : World) : Prop :=
  Below w.heap.size w w' ∧ match R with
    | none => e = .returned (.tuple #[.agg #[.int .i64 0, .int .i64 0, .string ⟨#[]⟩, .slice none 0 0, .slice none 0 0], .int .i64 0])
    | some (x, r) => ∃ (A K : Option Addr) (a c b d n : Nat), e = .returned (.tuple #[.agg #[.int .i64 x.kind, .int .i64 x.int, .string x.text, .slice A a c, .slice K b d], .int .i64 n]) ∧ n ≤ s.size ∧ r = sfx s n ∧ x.write.length = n
theorem VPPost.no {R : Option (V × List UInt8)} {s : ByteArray} {w w' : World} (h : R = none) (hb : Below w.heap.size w w') : VPPost R s w (.returned (.tuple #[.agg #[.int .i64 0, .int .i64 0, .string ⟨#[]⟩, .slice none 0 0, .slice none 0 0], .int .i64 0])) w' := by subst h; exact ⟨hb, rfl⟩
theorem VPPost.yes {R : Option (V × List UInt8)} {x : V} {n : Nat} {A K : Option Addr} {a c b d : Nat} {s : ByteArray} {w w' : World} (h : R = some (x, sfx s n)) (hn : n ≤ s.size) (hl : x.write.length = n) (hb : Below w.heap.size w w') : VPPost R s w (.returned (.tuple #[.agg #[.int .i64 x.kind, .int .i64 x.int, .string x.text, .slice A a c, .slice K b d], .int .i64 n])) w' := by
  subst h; exact ⟨hb, A, K, a, c, b, d, n, rfl, hn, rfl, hl⟩
end Go.Proofs.YthlmnhelmhnpfaaGreatDoor
