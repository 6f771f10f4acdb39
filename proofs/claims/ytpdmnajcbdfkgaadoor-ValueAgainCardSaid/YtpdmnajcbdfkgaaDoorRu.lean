/- The specification's text of a value: texts, lists and objects. -/
import Derived.Test.YtpdmnajcbdfkgaaDoorRt
import Derived.Test.YtpdmnajcbdfkgaaDoorZe
import Derived.Deep.RegionHeld3
namespace Go.Proofs.YtpdmnajcbdfkgaaDoor
open Go.RowKit

theorem below_own {w a b : World} {v : Value} {l : List UInt8} (hb : Below w.heap.size w a) (h : Own w.heap.size v l a) (hg : a.grownBy b v.ownBlock) : Below w.heap.size w b :=
  hb.trans (below_grow hg hb.size (fun r e => (World.ownsRow.lt h r e).1))
theorem own_lit (w : World) (c : UInt8) : Own w.heap.size (.slice (some ⟨w.heap.size, 0, none⟩) 1 1) [c] (w.alloc (.cells #[.int .u8 c.toNat] 5)) :=
  World.ownsRow_lit w #[.int .u8 c.toNat] 1 (Nat.le_refl _) (by decide) rfl
/-- Where the quoting stands. -/
def QtAt (s : ByteArray) (w wr : World) (v : Value) (acc : List UInt8) (k : Nat) : Prop :=
  acc = 34 :: (s.data.toList.take k).flatMap escB ∧ Below w.heap.size w wr ∧ Own w.heap.size v acc wr
theorem qt_len {s : ByteArray} {acc : List UInt8} {k : Nat} (h : acc = 34 :: (s.data.toList.take k).flatMap escB) : acc.length ≤ 2 * k + 1 := by
  have h1 := esc_len (s.data.toList.take k)
  have h2 := List.length_take_le k s.data.toList
  rw [h, List.length_cons]
  omega
theorem qt_plain {s : ByteArray} {acc : List UInt8} {k : Nat} (h : acc = 34 :: (s.data.toList.take k).flatMap escB) (hk : k < s.size) (h34 : ¬ s[k].toNat = 34) (h92 : ¬ s[k].toNat = 92) : acc ++ [s[k]] = 34 :: (s.data.toList.take (k + 1)).flatMap escB := by
  rw [h, take_next s k hk, List.flatMap_append, List.flatMap_singleton, escB, if_neg (fun e => e.elim (fun e => h34 (by rw [e]; rfl)) (fun e => h92 (by rw [e]; rfl)))]
  rfl
theorem qt_esc {s : ByteArray} {acc : List UInt8} {k : Nat} (h : acc = 34 :: (s.data.toList.take k).flatMap escB) (hk : k < s.size) (he : s[k].toNat = 34 ∨ s[k].toNat = 92) : acc ++ [92] ++ [s[k]] = 34 :: (s.data.toList.take (k + 1)).flatMap escB := by
  rw [h, take_next s k hk, List.flatMap_append, List.flatMap_singleton, escB, if_pos (he.imp (fun e => UInt8.toNat_inj.1 e) (fun e => UInt8.toNat_inj.1 e))]
  simp
theorem qt_end {s : ByteArray} {acc : List UInt8} {k : Nat} (h : acc = 34 :: (s.data.toList.take k).flatMap escB) (hk : ¬ k < s.size) : acc ++ [34] = quoteB s.data.toList := by
  rw [h, List.take_of_length_le (by simp; omega)]
  rfl

set_option maxRecDepth 100000 in
set_option maxHeartbeats 4000000 in
theorem refQuoted_any (s : ByteArray) (w : World) (hs : s.size ≤ 1000000) :
    Calls Tryd.prog 79 #[.string s] w fun e w' => e = .returned (.string ⟨(quoteB s.data.toList).toArray⟩) ∧ Below w.heap.size w w' := by
  obtain ⟨i0, hi, hz0, hz1, hz2⟩ := info_parts (P := Tryd.prog) (e := 5) (z := .int .u8 0) (size := 1) (bytes := 1) (by kernel_rfl)
  have hz := Nat.le_refl w.heap.size
  have HS := Lib.hid (show QtAt s w (w.alloc (.cells #[.int .u8 34] 5)) (.slice (some ⟨w.heap.size, 0, none⟩) 1 1) [34] 0 from ⟨by simp, below_al (Below.refl _ w) _, own_lit w 34⟩)
  go_enter Tryd.func79, Tryd.ntmps79
  go_wp2_with fail
  go_loopw [3, 4] (fun v i wr => ∃ (A : Option Addr) (c k : Nat) (acc : List UInt8), v = .slice A acc.length c ∧ i = .int .i64 k ∧ k ≤ s.size ∧ Hid (QtAt s w wr v acc k)) (fun _ i _ => s.size - (intOf i).toNat)
  case atStart => exact ⟨some ⟨w.heap.size, 0, none⟩, 1, 0, [34], rfl, rfl, Nat.zero_le _, HS⟩
  case round =>
    obtain ⟨A, c, k, acc, rfl, rfl, hk, HQ⟩ := hrel
    have hal := qt_len HQ.out.1
    have hsz := HQ.out.2.1.size
    have HE := Lib.hid HQ.out.1
    have HB := Lib.hid HQ.out.2.1
    have HO := Lib.hid HQ.out.2.2
    clear HS
    by_cases hlt : k < s.size
    · by_cases he : s[k].toNat = 34 ∨ s[k].toNat = 92
      · have HX := Lib.hid (qt_esc HE.out hlt he)
        obtain ⟨x, hx⟩ : ∃ x, x = s[k] := ⟨_, rfl⟩
        rw [← hx] at HX he
        have hxe := hx.symm
        clear hx
        have key : ((x.toNat : Int) == 34) = true ∨ (((x.toNat : Int) == 34) = false ∧ ((x.toNat : Int) == 92) = true) := by
          rcases he with he | he
          · left; simp; omega
          · right; constructor <;> (simp; omega)
        clear he
        rcases key with e0 | ⟨e0, e1⟩
        all_goals
          go_wp2_with (at_builtin; refine wpList_append_own _ rfl _ _ 61 rfl w.heap.size 5 i0 (.int .u8 0) 1 1 Tryd.underlying61 hi hz0 hz1 hz2 rfl (by decide) _ _ _ rfl (World.ownsRow.alloc HO.out _) _ 1 1 [.int .u8 (92 : UInt8).toNat] rfl rfl ?c1 ?c2 ?c3 ?c4 ?c5 ?_)
          case c1 =>
            intro i u hj
            match i, hj with
            | 0, hj => simp at hj; subst hj; simp [Addr.add]
          case c2 => intro u hu; simp at hu; subst hu; rfl
          case c3 => unfold maxLen; omega
          case c4 => omega
          case c5 => simp; omega
          intro v' w5 hown hgrow _
          have HO5 := Lib.hid (Own.push (x := 92) hown)
          have HB5 := Lib.hid (below_own (below_al HB.out _) (World.ownsRow.alloc HO.out _) hgrow)
          have hsz5 := HB5.out.size
          clear hown hgrow
          obtain ⟨A5, c5, rfl⟩ := HO5.out.form
          have hal5 : (acc ++ [92]).length ≤ 2 * k + 2 := by simp; omega
          obtain ⟨ac5, hac5⟩ : ∃ ac5, ac5 = acc ++ [92] := ⟨_, rfl⟩
          rw [← hac5] at HO5 HX hal5 ⊢
          clear hac5
          go_wp2_with (at_builtin; refine wpList_append_own _ rfl _ _ 61 rfl w.heap.size 5 i0 (.int .u8 0) 1 1 Tryd.underlying61 hi hz0 hz1 hz2 rfl (by decide) _ _ _ rfl (World.ownsRow.alloc HO5.out _) _ 1 1 [.int .u8 x.toNat] rfl rfl ?c1 ?c2 ?c3 ?c4 ?c5 ?_)
          case c1 =>
            intro i u hj
            match i, hj with
            | 0, hj => simp at hj; subst hj; simp [Addr.add]
          case c2 => intro u hu; simp at hu; subst hu; rfl
          case c3 => unfold maxLen; omega
          case c4 => omega
          case c5 => simp; omega
          intro v' w6 hown hgrow _
          have HO6 := Lib.hid (Own.push hown)
          have HB6 := Lib.hid (below_own (below_al HB5.out _) (World.ownsRow.alloc HO5.out _) hgrow)
          clear hown hgrow
          obtain ⟨A6, c6, rfl⟩ := HO6.out.form
          go_wp2_with fail
          go_roundw
          case rel => exact ⟨A6, c6, k + 1, ac5 ++ [x], rfl, rfl, hlt, Lib.hid ⟨HX.out, HB6.out, HO6.out⟩⟩
          case measure => simp [intOf]; omega
      · have h34 : ¬ s[k].toNat = 34 := fun e => he (.inl e)
        have h92 : ¬ s[k].toNat = 92 := fun e => he (.inr e)
        have HX := Lib.hid (qt_plain HE.out hlt h34 h92)
        obtain ⟨x, hx⟩ : ∃ x, x = s[k] := ⟨_, rfl⟩
        rw [← hx] at HX h34 h92
        have hxe := hx.symm
        have e0 : ((x.toNat : Int) == 34) = false := by simp; omega
        have e1 : ((x.toNat : Int) == 92) = false := by simp; omega
        clear he h34 h92 hx
        go_wp2_with (at_builtin; refine wpList_append_own _ rfl _ _ 61 rfl w.heap.size 5 i0 (.int .u8 0) 1 1 Tryd.underlying61 hi hz0 hz1 hz2 rfl (by decide) _ _ _ rfl (World.ownsRow.alloc HO.out _) _ 1 1 [.int .u8 x.toNat] rfl rfl ?c1 ?c2 ?c3 ?c4 ?c5 ?_)
        case c1 =>
          intro i u hj
          match i, hj with
          | 0, hj => simp at hj; subst hj; simp [Addr.add]
        case c2 => intro u hu; simp at hu; subst hu; rfl
        case c3 => unfold maxLen; omega
        case c4 => omega
        case c5 => simp; omega
        intro v' w6 hown hgrow _
        have HO6 := Lib.hid (Own.push hown)
        have HB6 := Lib.hid (below_own (below_al HB.out _) (World.ownsRow.alloc HO.out _) hgrow)
        clear hown hgrow
        obtain ⟨A6, c6, rfl⟩ := HO6.out.form
        go_wp2_with fail
        go_roundw
        case rel => exact ⟨A6, c6, k + 1, acc ++ [x], rfl, rfl, hlt, Lib.hid ⟨HX.out, HB6.out, HO6.out⟩⟩
        case measure => simp [intOf]; omega
    · have HX := Lib.hid (qt_end HE.out hlt)
      go_wp2_with (at_builtin; refine wpList_append_own _ rfl _ _ 61 rfl w.heap.size 5 i0 (.int .u8 0) 1 1 Tryd.underlying61 hi hz0 hz1 hz2 rfl (by decide) _ _ _ rfl (World.ownsRow.alloc HO.out _) _ 1 1 [.int .u8 (34 : UInt8).toNat] rfl rfl ?c1 ?c2 ?c3 ?c4 ?c5 ?_)
      case c1 =>
        intro i u hj
        match i, hj with
        | 0, hj => simp at hj; subst hj; simp [Addr.add]
      case c2 => intro u hu; simp at hu; subst hu; rfl
      case c3 => unfold maxLen; omega
      case c4 => omega
      case c5 => simp; omega
      intro v' w6 hown hgrow _
      have HO6 := Lib.hid (Own.push (x := 34) hown)
      have HB6 := Lib.hid (below_own (below_al HB.out _) (World.ownsRow.alloc HO.out _) hgrow)
      clear hown hgrow
      have hcv := own_string HO6.out
      go_wp2_with fail
      go_ret
      exact ⟨by rw [HX.out]; rfl, HB6.out⟩

theorem cat_c (u : List UInt8) (c : UInt8) : (⟨u.toArray⟩ ++ ⟨#[c]⟩ : ByteArray) = ⟨(u ++ [c]).toArray⟩ := ByteArray.mk_append_mk u [c]
theorem cat_l (u v : List UInt8) : (⟨u.toArray⟩ ++ ⟨v.toArray⟩ : ByteArray) = ⟨(u ++ v).toArray⟩ := ByteArray.mk_append_mk u v
theorem cat_h (c : UInt8) (v : List UInt8) : (⟨#[c]⟩ ++ ⟨v.toArray⟩ : ByteArray) = ⟨(c :: v).toArray⟩ := ByteArray.mk_append_mk [c] v
def WrPost (x : V) (w : World) (e : Ending) (w' : World) : Prop := e = .returned (.string ⟨x.write.toArray⟩) ∧ Below w.heap.size w w'
/-- Where the writing of items stands. -/
def WrAt (o : Bool) (l : List V) (ks : List ByteArray) (w wr : World) (x : V) (A : Option Addr) (c : Nat) (K : Option Addr) (d k : Nat) (u : List UInt8) : Prop :=
  u = writeTo o l ks k ∧ Below w.heap.size w wr ∧ Boxed wr w.heap.size x A c K d
theorem wr_len {o : Bool} {l : List V} {ks : List ByteArray} (hl : V.okL l = true) (hk : keysOk o l.length ks) (hn : V.nodesL l ≤ 60) (k : Nat) : (writeTo o l ks k).length ≤ 24600 := by
  have h1 := V.writeL_len o true (l.take k) ks (V.okL_take hl k) (fun ho j hj => hk ho j (by rw [List.length_take] at hj; omega))
  have h2 := V.nodesL_take_le l k
  unfold writeTo
  omega
theorem keep11 {w0 wx w1 : World} {n g kb ko b o : Nat} {a0 a1 a2 a3 a4 v0 v1 v2 v3 v4 u0 : Value}
    (h : ((g < wx.heap.size ∧ kb < wx.heap.size ∧ b < wx.heap.size ∧ n ≤ wx.heap.size) ∧ Hid (Below n w0 wx)) ∧
      (wx.cell? ⟨g, 0, none⟩ = some a0 ∧ wx.cell? ⟨g, 1, none⟩ = some a1 ∧ wx.cell? ⟨g, 2, none⟩ = some a2 ∧ wx.cell? ⟨g, 3, none⟩ = some a3 ∧ wx.cell? ⟨g, 4, none⟩ = some a4) ∧
      wx.cell? ⟨kb, ko, none⟩ = some u0 ∧
      (wx.cell? ⟨b, o, none⟩ = some v0 ∧ wx.cell? ⟨b, o + 1, none⟩ = some v1 ∧ wx.cell? ⟨b, o + 2, none⟩ = some v2 ∧ wx.cell? ⟨b, o + 3, none⟩ = some v3 ∧ wx.cell? ⟨b, o + 4, none⟩ = some v4))
    (hb : Below wx.heap.size wx w1) :
    ((g < w1.heap.size ∧ kb < w1.heap.size ∧ b < w1.heap.size ∧ n ≤ w1.heap.size) ∧ Hid (Below n w0 w1)) ∧
      (w1.cell? ⟨g, 0, none⟩ = some a0 ∧ w1.cell? ⟨g, 1, none⟩ = some a1 ∧ w1.cell? ⟨g, 2, none⟩ = some a2 ∧ w1.cell? ⟨g, 3, none⟩ = some a3 ∧ w1.cell? ⟨g, 4, none⟩ = some a4) ∧
      w1.cell? ⟨kb, ko, none⟩ = some u0 ∧
      (w1.cell? ⟨b, o, none⟩ = some v0 ∧ w1.cell? ⟨b, o + 1, none⟩ = some v1 ∧ w1.cell? ⟨b, o + 2, none⟩ = some v2 ∧ w1.cell? ⟨b, o + 3, none⟩ = some v3 ∧ w1.cell? ⟨b, o + 4, none⟩ = some v4) := by
  obtain ⟨⟨⟨h1, h2, h3, h4⟩, h5⟩, ⟨c0, c1, c2, c3, c4⟩, k0, d0, d1, d2, d3, d4⟩ := h
  have hk := bcell hb
  have hs := hb.size
  exact ⟨⟨⟨by omega, by omega, by omega, by omega⟩, h5.out.trans (hb.mono (by omega))⟩, ⟨(hk _ _ h1).trans c0, (hk _ _ h1).trans c1, (hk _ _ h1).trans c2, (hk _ _ h1).trans c3, (hk _ _ h1).trans c4⟩,
    (hk _ _ h2).trans k0, (hk _ _ h3).trans d0, (hk _ _ h3).trans d1, (hk _ _ h3).trans d2, (hk _ _ h3).trans d3, (hk _ _ h3).trans d4⟩

set_option maxRecDepth 100000 in
set_option maxHeartbeats 8000000 in
theorem written_any (N : Nat) : ∀ (x : V) (w : World) (A K : Option Addr) (c d : Nat), x.nodes ≤ N → N ≤ 60 → x.ok = true → Lies w w.heap.size x A c K d →
    Calls Tryd.prog 50 #[aggOf x A c K d] w (WrPost x w) := by
  induction N with
  | zero => intro x w A K c d hx; have := x.nodes_pos; omega
  | succ N ih =>
    intro x w A K c d hxn hN hok hL
    obtain ⟨k, i, t, l, ks⟩ := x
    have IH := Lib.hid ih
    have hok' := hok
    rw [V.ok, Bool.and_eq_true] at hok'
    obtain ⟨hs, hl⟩ := hok'
    have HB0 := Lib.hid (show Below w.heap.size w (w.alloc (.cells #[.int .i64 k, .int .i64 i, .string t, .slice A l.length c, .slice K ks.length d] 25)) ∧ Boxed (w.alloc (.cells #[.int .i64 k, .int .i64 i, .string t, .slice A l.length c, .slice K ks.length d] 25)) w.heap.size (.mk k i t l ks) A c K d from ⟨below_al (Below.refl _ w) _, BlockIs.new w _ _⟩)
    have hzw := Nat.le_refl w.heap.size
    unfold aggOf
    show Calls Tryd.prog 50 #[.agg #[.int .i64 k, .int .i64 i, .string t, .slice A l.length c, .slice K ks.length d]] w (WrPost (.mk k i t l ks) w)
    clear ih
    by_cases h0 : k = 0
    · subst h0
      have HE := Lib.hid (show (V.mk 0 i t l ks).write = nullB by rw [V.write, if_pos rfl])
      clear hs hl hok hL
      go_enter Tryd.func50, Tryd.ntmps50
      go_wp2_with fail
      go_ret
      exact ⟨by rw [HE.out]; rfl, HB0.out.1⟩
    by_cases h1 : k = 1
    · subst h1
      unfold V.sound at hs
      simp at hs
      obtain ⟨⟨hi, -⟩, -, -⟩ := hs
      clear hl hok hL h0
      rcases hi with rfl | rfl
      · have HE := Lib.hid (show (V.mk 1 0 t l ks).write = truthB false by rw [V.write, if_neg (by decide), if_pos rfl]; rfl)
        go_enter Tryd.func50, Tryd.ntmps50
        go_wp2_with fail
        go_ret
        exact ⟨by rw [HE.out]; rfl, HB0.out.1⟩
      · have HE := Lib.hid (show (V.mk 1 1 t l ks).write = truthB true by rw [V.write, if_neg (by decide), if_pos rfl]; rfl)
        go_enter Tryd.func50, Tryd.ntmps50
        go_wp2_with fail
        go_ret
        exact ⟨by rw [HE.out]; rfl, HB0.out.1⟩
    by_cases h2 : k = 2
    · subst h2
      unfold V.sound at hs
      simp at hs
      obtain ⟨⟨⟨hi1, hi2⟩, -⟩, -, -⟩ := hs
      have HE := Lib.hid (show (V.mk 2 i t l ks).write = Lib.itoa i by rw [V.write, if_neg (by decide), if_neg (by decide), if_pos rfl])
      have HD := Lib.hid fun W => digits_any (i.natAbs + 1) i W (by omega) hi1 hi2
      clear hl hok hL h0 h1
      go_enter Tryd.func50, Tryd.ntmps50
      go_wp2_with fail
      refine (HD.out _).mono ?_
      rintro e w1 ⟨rfl, hb1⟩
      have HB1 := Lib.hid (below_on HB0.out.1 hb1)
      clear hb1
      go_wp2_with fail
      go_ret
      exact ⟨by rw [HE.out]; rfl, HB1.out⟩
    by_cases h3 : k = 3
    · subst h3
      unfold V.sound at hs
      simp at hs
      obtain ⟨⟨-, ht⟩, -, -⟩ := hs
      have htl := textB_len ht
      have HE := Lib.hid (show (V.mk 3 i t l ks).write = quoteB t.data.toList by rw [V.write, if_neg (by decide), if_neg (by decide), if_neg (by decide), if_pos rfl])
      have HD := Lib.hid fun W => refQuoted_any t W (by have : t.data.toList.length = t.size := by simp
                                                        omega)
      clear hl hok hL h0 h1 h2 ht htl
      go_enter Tryd.func50, Tryd.ntmps50
      go_wp2_with fail
      refine (HD.out _).mono ?_
      rintro e w1 ⟨rfl, hb1⟩
      have HB1 := Lib.hid (below_on HB0.out.1 hb1)
      clear hb1
      go_wp2_with fail
      go_ret
      exact ⟨by rw [HE.out]; rfl, HB1.out⟩
    have hnl : V.nodesL l ≤ N := by simp only [V.nodes] at hxn; omega
    have hn60 : V.nodesL l ≤ 60 := by omega
    have HL := Lib.hid hL
    have hlm : l.length ≤ 9223372036854775807 := by have := hL.items.1; have := hL.items.2.1; unfold maxLen at *; omega
    obtain ⟨n, hn⟩ : ∃ n, n = l.length := ⟨_, rfl⟩
    have HN := Lib.hid hn
    by_cases h4 : k = 4
    · subst h4
      have HE := Lib.hid (show (V.mk 4 i t l ks).write = 91 :: (V.writeL false true l ks ++ [93]) by rw [V.write, if_neg (by decide), if_neg (by decide), if_neg (by decide), if_neg (by decide), if_pos rfl])
      have HLen := Lib.hid fun k => wr_len (o := false) (ks := ks) hl (fun h => by cases h) hn60 k
      have HOk := Lib.hid hl
      clear hl hok hL h0 h1 h2 h3 hs
      rw [← hn] at hlm ⊢
      have HS := Lib.hid (show WrAt false l ks w (w.alloc (.cells #[.int .i64 4, .int .i64 i, .string t, .slice A n c, .slice K ks.length d] 25)) (.mk 4 i t l ks) A c K d 0 [] from ⟨by simp [writeTo, V.writeL], by rw [hn]; exact HB0.out.1, by rw [hn]; exact HB0.out.2⟩)
      clear hn
      go_enter Tryd.func50, Tryd.ntmps50
      go_wp2_with fail
      go_loopw [3, 4] (fun sv iv wr => ∃ (k : Nat) (u : List UInt8), sv = .string ⟨u.toArray⟩ ∧ iv = .int .i64 k ∧ k ≤ n ∧ u.length ≤ 24600 ∧ Hid (WrAt false l ks w wr (.mk 4 i t l ks) A c K d k u)) (fun _ iv _ => n - (intOf iv).toNat)
      case atStart => exact ⟨0, [], rfl, rfl, Nat.zero_le _, by simp, HS⟩
      case round =>
        clear HS
        obtain ⟨k, u, rfl, rfl, hk, hu, HA⟩ := hrel
        have HU := Lib.hid HA.out.1
        have HB := Lib.hid HA.out.2
        obtain ⟨x0, x1, x2, x3, x4⟩ := HB.out.2.cells
        simp only [V.kind, V.int, V.text, V.items, V.keys] at x0 x1 x2 x3 x4
        rw [← HN.out] at x3
        have hzr := HB.out.1.size
        clear HA
        by_cases hlt : k < n
        · have hlt1 : k < l.length := by rw [← HN.out]; exact hlt
          have hk1 := (Lies.items HL.out).keep (w' := wr) (bcell HB.out.1) (HB.out.1.size)
          obtain ⟨b, o, rfl, hb1, hf1⟩ := hk1.at_ (k := k) hlt1
          obtain ⟨y, hy⟩ : ∃ y, l[k]? = some y := ⟨_, List.getElem?_eq_getElem hlt1⟩
          obtain ⟨Ay, cy, Ky, dy, e0, e1, e2, e3, e4, hly⟩ := hf1.at_ hy
          have hyn : y.nodes ≤ N := by have := V.nodes_mem (List.mem_of_getElem? hy); omega
          have hyo : y.ok = true := V.okL_mem HOk.out (List.mem_of_getElem? hy)
          obtain ⟨yw, hyw⟩ : ∃ yw, yw = y.write := ⟨_, rfl⟩
          have hyl : yw.length ≤ 24600 := by have := V.write_len y hyo; rw [hyw]; omega
          have HC := Lib.hid (show Calls Tryd.prog 50 #[.agg #[.int .i64 y.kind, .int .i64 y.int, .string y.text, .slice Ay y.items.length cy, .slice Ky y.keys.length dy]] wr fun e w' => e = .returned (.string ⟨yw.toArray⟩) ∧ Below wr.heap.size wr w' by
            rw [hyw]; exact IH.out y wr Ay Ky cy dy hyn (by omega) hyo hly)
          have HW := Lib.hid (writeTo_succ false hy ks)
          rw [← hyw] at HW
          have HLn := Lib.hid (HLen.out (k + 1))
          have h0 : 0 ≤ (k : Int) := by omega
          have h1 : (k : Int) < n := by omega
          clear hlt1 hk1 hf1 hy hly hyn hyo hyw
          by_cases hk0 : k = 0
          · have hkp : ¬ 0 < (k : Int) := by omega
            have HX := Lib.hid (show u ++ yw = writeTo false l ks (k + 1) by rw [HW.out, ← HU.out]; simp [sepB, hk0])
            clear hk0
            go_wp2_with fail
            refine (HC.out).mono ?_
            rintro e w1 ⟨rfl, hb2⟩
            have HB1 := Lib.hid (And.intro (below_on HB.out.1 hb2) (HB.out.2.on hb2))
            clear hb2 x0 x1 x2 x3 x4 e0 e1 e2 e3 e4
            go_wp2_with fail
            go_roundw
            case rel => exact ⟨k + 1, u ++ yw, by rw [cat_l], by go_num, by omega, by rw [HX.out]; exact HLn.out, Lib.hid ⟨HX.out, HB1.out.1, HB1.out.2⟩⟩
            case measure => simp [intOf]; omega
          · have hkp : 0 < (k : Int) := by omega
            go_wp2_with fail
            refine (HC.out).mono ?_
            rintro e w1 ⟨rfl, hb2⟩
            have HB1 := Lib.hid (And.intro (below_on HB.out.1 hb2) (HB.out.2.on hb2))
            clear hb2 x0 x1 x2 x3 x4 e0 e1 e2 e3 e4
            have HX := Lib.hid (show u ++ [44] ++ yw = writeTo false l ks (k + 1) by rw [HW.out, ← HU.out]; simp [sepB, hk0])
            go_wp2_with fail
            go_roundw
            case rel => exact ⟨k + 1, u ++ [44] ++ yw, by rw [cat_c, cat_l], by go_num, by omega, by rw [HX.out]; exact HLn.out, Lib.hid ⟨HX.out, HB1.out.1, HB1.out.2⟩⟩
            case measure => simp [intOf]; omega
        · go_wp2_with fail
          go_ret
          refine ⟨?_, HB.out.1⟩
          rw [HE.out, ← writeTo_all false l ks (k := k) (by rw [← HN.out]; omega), ← HU.out]
          rw [cat_h, cat_c]
          rfl
    by_cases h5 : k = 5
    · subst h5
      have HE := Lib.hid (show (V.mk 5 i t l ks).write = 123 :: (V.writeL true true l ks ++ [125]) by rw [V.write, if_neg (by decide), if_neg (by decide), if_neg (by decide), if_neg (by decide), if_neg (by decide)])
      have hko := ok_object hok rfl
      have HLen := Lib.hid fun k => wr_len (o := true) (ks := ks) hl hko hn60 k
      have HOk := Lib.hid hl
      have hkl : ks.length = l.length := by unfold V.sound at hs; simp at hs; exact hs.1.2
      have HKL := Lib.hid hkl
      have HKo := Lib.hid hko
      have hkn : ks.length = n := by rw [hkl, hn]
      clear hl hok hL h0 h1 h2 h3 h4 hs hko hkl
      rw [← hn] at hlm ⊢
      rw [hkn]
      have HS := Lib.hid (show WrAt true l ks w (w.alloc (.cells #[.int .i64 5, .int .i64 i, .string t, .slice A n c, .slice K n d] 25)) (.mk 5 i t l ks) A c K d 0 [] from ⟨by simp [writeTo, V.writeL], by have := HB0.out.1; rw [← hn, hkn] at this; exact this, by have := HB0.out.2; rw [← hn, hkn] at this; exact this⟩)
      have HKN := Lib.hid hkn
      clear hn hkn
      go_enter Tryd.func50, Tryd.ntmps50
      go_wp2_with fail
      go_loopw [5, 6] (fun sv iv wr => ∃ (k : Nat) (u : List UInt8), sv = .string ⟨u.toArray⟩ ∧ iv = .int .i64 k ∧ k ≤ n ∧ u.length ≤ 24600 ∧ Hid (WrAt true l ks w wr (.mk 5 i t l ks) A c K d k u)) (fun _ iv _ => n - (intOf iv).toNat)
      case atStart => exact ⟨0, [], rfl, rfl, Nat.zero_le _, by simp, HS⟩
      case round =>
        clear HS
        obtain ⟨k, u, rfl, rfl, hk, hu, HA⟩ := hrel
        have HU := Lib.hid HA.out.1
        have HB := Lib.hid HA.out.2
        obtain ⟨x0, x1, x2, x3, x4⟩ := HB.out.2.cells
        simp only [V.kind, V.int, V.text, V.items, V.keys] at x0 x1 x2 x3 x4
        rw [← HN.out] at x3
        rw [HKN.out] at x4
        have hzr := HB.out.1.size
        have hgr := HB.out.2.lt
        clear HA
        by_cases hlt : k < n
        · have hlt1 : k < l.length := by rw [← HN.out]; exact hlt
          have hlt2 : k < ks.length := by rw [HKN.out]; exact hlt
          have hk1 := (Lies.items HL.out).keep (w' := wr) (bcell HB.out.1) (HB.out.1.size)
          obtain ⟨b, o, rfl, hb1, hf1⟩ := hk1.at_ (k := k) hlt1
          obtain ⟨y, hy⟩ : ∃ y, l[k]? = some y := ⟨_, List.getElem?_eq_getElem hlt1⟩
          obtain ⟨Ay, cy, Ky, dy, e0, e1, e2, e3, e4, hly⟩ := hf1.at_ hy
          have hk2 := (Lies.keys HL.out).keep (w' := wr) (bcell HB.out.1) (HB.out.1.size)
          obtain ⟨kb, ko, rfl, hkb, hkf⟩ := hk2.at_ (k := k) hlt2
          obtain ⟨key, hkey⟩ : ∃ key, ks[k]? = some key := ⟨_, List.getElem?_eq_getElem hlt2⟩
          obtain ⟨q0, hks⟩ := hkf k key hkey
          have hyn : y.nodes ≤ N := by have := V.nodes_mem (List.mem_of_getElem? hy); omega
          have hyo : y.ok = true := V.okL_mem HOk.out (List.mem_of_getElem? hy)
          have hkd : ks.getD k ByteArray.empty = key := by simp [hkey]
          have hk100 : key.data.toList.length ≤ 100 := by have := HKo.out rfl k hlt1; rwa [hkd] at this
          obtain ⟨yw, hyw⟩ : ∃ yw, yw = y.write := ⟨_, rfl⟩
          have hyl : yw.length ≤ 24600 := by have := V.write_len y hyo; rw [hyw]; omega
          obtain ⟨kq, hkq⟩ : ∃ kq, kq = quoteB key.data.toList := ⟨_, rfl⟩
          have hkql : kq.length ≤ 210 := by have := quoteB_len key.data.toList; rw [hkq]; omega
          have HC := Lib.hid fun W (hW : Below wr.heap.size wr W) => show Calls Tryd.prog 50 #[.agg #[.int .i64 y.kind, .int .i64 y.int, .string y.text, .slice Ay y.items.length cy, .slice Ky y.keys.length dy]] W fun e w' => e = .returned (.string ⟨yw.toArray⟩) ∧ Below W.heap.size W w' by
            rw [hyw]; exact IH.out y W Ay Ky cy dy hyn (by omega) hyo (lies_on hly hW)
          have HQ := Lib.hid fun W => show Calls Tryd.prog 79 #[.string key] W fun e w' => e = .returned (.string ⟨kq.toArray⟩) ∧ Below W.heap.size W w' by
            rw [hkq]; exact refQuoted_any key W (by have : key.data.toList.length = key.size := by simp
                                                    omega)
          have HW := Lib.hid (writeTo_succ true hy ks)
          rw [← hyw, hkd] at HW
          have HKQ := Lib.hid hkq
          have HLn := Lib.hid (HLen.out (k + 1))
          have h0 : 0 ≤ (k : Int) := by omega
          have h1 : (k : Int) < n := by omega
          clear hlt1 hlt2 hk1 hf1 hy hly hyn hyo hyw hk2 hkf hkey hks hkd hk100 hkq
          by_cases hk0 : k = 0
          · have hkp : ¬ 0 < (k : Int) := by omega
            have hs1 : ¬ 9223372036854775807 < u.length + kq.length := by omega
            have hs2 : ¬ 9223372036854775807 < u.length + kq.length + 1 := by omega
            have hs3 : ¬ 9223372036854775807 < u.length + kq.length + 1 + yw.length := by omega
            have HX := Lib.hid (show u ++ kq ++ [58] ++ yw = writeTo true l ks (k + 1) by rw [HW.out, ← HU.out]; simp [sepB, hk0, ← HKQ.out])
            clear hk0
            go_wp2_with fail
            go_region_held3 (fun W => ((w.heap.size < W.heap.size ∧ kb < W.heap.size ∧ b < W.heap.size ∧ wr.heap.size ≤ W.heap.size) ∧ Hid (Below wr.heap.size wr W)) ∧
                (W.cell? ⟨w.heap.size, 0, none⟩ = some (.int .i64 5) ∧ W.cell? ⟨w.heap.size, 1, none⟩ = some (.int .i64 i) ∧ W.cell? ⟨w.heap.size, 2, none⟩ = some (.string t) ∧ W.cell? ⟨w.heap.size, 3, none⟩ = some (.slice (some ⟨b, o, none⟩) n c) ∧ W.cell? ⟨w.heap.size, 4, none⟩ = some (.slice (some ⟨kb, ko, none⟩) n d)) ∧
                W.cell? ⟨kb, ko + k, none⟩ = some (.string key) ∧
                (W.cell? ⟨b, o + k * 5, none⟩ = some (.int .i64 y.kind) ∧ W.cell? ⟨b, o + k * 5 + 1, none⟩ = some (.int .i64 y.int) ∧ W.cell? ⟨b, o + k * 5 + 2, none⟩ = some (.string y.text) ∧ W.cell? ⟨b, o + k * 5 + 3, none⟩ = some (.slice Ay y.items.length cy) ∧ W.cell? ⟨b, o + k * 5 + 4, none⟩ = some (.slice Ky y.keys.length dy)))
              (first
                | (exact ⟨⟨⟨hgr, hkb, hb1, Nat.le_refl _⟩, Lib.hid (Below.drew (Below.refl _ _))⟩, ⟨x0, x1, x2, x3, x4⟩, q0, e0, e1, e2, e3, e4⟩)
                | (exact keep11 (by assumption) hb3))
              (first
                | (go_at_call 79; refine (HQ.out _).mono ?_; rintro e w' ⟨rfl, hb3⟩)
                | (go_at_call 50; refine (HC.out _ ?_).mono ?_; (go_split_ands; exact Hid.out (by assumption)); rintro e w' ⟨rfl, hb3⟩))
            all_goals
              have HE9 : Hid (Below wr.heap.size wr w') := And.right (And.left (by assumption))
              have HB9 := Lib.hid (And.intro (below_on HB.out.1 HE9.out) (HB.out.2.on HE9.out))
              clear x0 x1 x2 x3 x4 e0 e1 e2 e3 e4 q0
              go_wp2_with fail
              go_roundw
              case rel => exact ⟨k + 1, u ++ kq ++ [58] ++ yw, by rw [cat_l, cat_c, cat_l], by go_num, by omega, by rw [HX.out]; exact HLn.out, Lib.hid ⟨HX.out, HB9.out.1, HB9.out.2⟩⟩
              case measure => simp [intOf]; omega
          · have hkp : 0 < (k : Int) := by omega
            have hs0 : ¬ 9223372036854775807 < u.length + 1 := by omega
            have hs1 : ¬ 9223372036854775807 < u.length + 1 + kq.length := by omega
            have hs2 : ¬ 9223372036854775807 < u.length + 1 + kq.length + 1 := by omega
            have hs3 : ¬ 9223372036854775807 < u.length + 1 + kq.length + 1 + yw.length := by omega
            have HX := Lib.hid (show u ++ [44] ++ kq ++ [58] ++ yw = writeTo true l ks (k + 1) by rw [HW.out, ← HU.out]; simp [sepB, hk0, ← HKQ.out])
            clear hk0
            go_wp2_with fail
            go_region_held3 (fun W => ((w.heap.size < W.heap.size ∧ kb < W.heap.size ∧ b < W.heap.size ∧ wr.heap.size ≤ W.heap.size) ∧ Hid (Below wr.heap.size wr W)) ∧
                (W.cell? ⟨w.heap.size, 0, none⟩ = some (.int .i64 5) ∧ W.cell? ⟨w.heap.size, 1, none⟩ = some (.int .i64 i) ∧ W.cell? ⟨w.heap.size, 2, none⟩ = some (.string t) ∧ W.cell? ⟨w.heap.size, 3, none⟩ = some (.slice (some ⟨b, o, none⟩) n c) ∧ W.cell? ⟨w.heap.size, 4, none⟩ = some (.slice (some ⟨kb, ko, none⟩) n d)) ∧
                W.cell? ⟨kb, ko + k, none⟩ = some (.string key) ∧
                (W.cell? ⟨b, o + k * 5, none⟩ = some (.int .i64 y.kind) ∧ W.cell? ⟨b, o + k * 5 + 1, none⟩ = some (.int .i64 y.int) ∧ W.cell? ⟨b, o + k * 5 + 2, none⟩ = some (.string y.text) ∧ W.cell? ⟨b, o + k * 5 + 3, none⟩ = some (.slice Ay y.items.length cy) ∧ W.cell? ⟨b, o + k * 5 + 4, none⟩ = some (.slice Ky y.keys.length dy)))
              (first
                | (exact ⟨⟨⟨hgr, hkb, hb1, Nat.le_refl _⟩, Lib.hid (Below.drew (Below.refl _ _))⟩, ⟨x0, x1, x2, x3, x4⟩, q0, e0, e1, e2, e3, e4⟩)
                | (exact keep11 (by assumption) hb3))
              (first
                | (go_at_call 79; refine (HQ.out _).mono ?_; rintro e w' ⟨rfl, hb3⟩)
                | (go_at_call 50; refine (HC.out _ ?_).mono ?_; (go_split_ands; exact Hid.out (by assumption)); rintro e w' ⟨rfl, hb3⟩))
            all_goals
              have HE9 : Hid (Below wr.heap.size wr w') := And.right (And.left (by assumption))
              have HB9 := Lib.hid (And.intro (below_on HB.out.1 HE9.out) (HB.out.2.on HE9.out))
              clear x0 x1 x2 x3 x4 e0 e1 e2 e3 e4 q0
              go_wp2_with fail
              go_roundw
              case rel => exact ⟨k + 1, u ++ [44] ++ kq ++ [58] ++ yw, by rw [cat_c, cat_l, cat_c, cat_l], by go_num, by omega, by rw [HX.out]; exact HLn.out, Lib.hid ⟨HX.out, HB9.out.1, HB9.out.2⟩⟩
              case measure => simp [intOf]; omega
        · go_wp2_with fail
          go_ret
          refine ⟨?_, HB.out.1⟩
          rw [HE.out, ← writeTo_all true l ks (k := k) (by rw [← HN.out]; omega), ← HU.out]
          rw [cat_h, cat_c]
          rfl
    · unfold V.sound at hs
      simp [h0, h1, h2, h3, h4, h5] at hs
end Go.Proofs.YtpdmnajcbdfkgaaDoor
