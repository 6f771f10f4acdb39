/- The law on reading again what was read, walked. -/
import Derived.Test.YtpdmnajcbdfkgaaDoorRu
namespace Go.Proofs.YtpdmnajcbdfkgaaDoor
open Go.RowKit

/-- Where the striking of blanks stands. -/
def BrAt (s : ByteArray) (w wr : World) (v : Value) (acc : List UInt8) (q : Bool) (k : Nat) : Prop :=
  acc ++ bareP q (sfx s k) = bareP false (sfx s 0) ∧ Below w.heap.size w wr ∧ Own w.heap.size v acc wr
theorem br_blank {s : ByteArray} {k : Nat} {acc R : List UInt8} (h : acc ++ bareP false (sfx s k) = R) (hk : k < s.size) (hc : s[k].toNat = 32) : acc ++ bareP false (sfx s (k + 1)) = R := by
  rw [sfx_cons hk, bare_out, if_pos (UInt8.toNat_inj.1 hc)] at h; exact h
theorem br_out {s : ByteArray} {k : Nat} {acc R : List UInt8} {x : UInt8} (h : acc ++ bareP false (sfx s k) = R) (hk : k < s.size) (hx : s[k] = x) (hc : ¬ x.toNat = 32) {b : Bool} (hb : (x == 34) = b) : acc ++ [x] ++ bareP b (sfx s (k + 1)) = R := by
  rw [sfx_cons hk, hx, bare_out, if_neg (fun e => hc (by rw [e]; rfl)), hb] at h; simpa using h
theorem br_in {s : ByteArray} {k : Nat} {acc R : List UInt8} {x : UInt8} (h : acc ++ bareP true (sfx s k) = R) (hk : k < s.size) (hx : s[k] = x) (hc : ¬ x.toNat = 92) {b : Bool} (hb : (!(x == 34)) = b) : acc ++ [x] ++ bareP b (sfx s (k + 1)) = R := by
  rw [sfx_cons hk, hx, bare_in, if_neg (fun e => hc (by rw [e]; rfl)), hb] at h; simpa using h
theorem br_esc {s : ByteArray} {k : Nat} {acc R : List UInt8} {x y : UInt8} (h : acc ++ bareP true (sfx s k) = R) (hk : k < s.size) (hx : s[k] = x) (hc : x.toNat = 92) (hk2 : k + 1 < s.size) (hy : s[k + 1] = y) : acc ++ [x] ++ [y] ++ bareP true (sfx s (k + 1 + 1)) = R := by
  rw [sfx_cons hk, sfx_cons hk2, hx, hy, bare_in, if_pos (UInt8.toNat_inj.1 hc)] at h; simpa using h
theorem br_last {s : ByteArray} {k : Nat} {acc R : List UInt8} {x : UInt8} (h : acc ++ bareP true (sfx s k) = R) (hk : k < s.size) (hx : s[k] = x) (hc : x.toNat = 92) (hk2 : ¬ k + 1 < s.size) : acc ++ [x] ++ bareP true (sfx s (k + 1)) = R := by
  rw [sfx_cons hk, sfx_nil hk2, hx, bare_in, if_pos (UInt8.toNat_inj.1 hc)] at h
  rw [sfx_nil hk2, bare_nil]
  simpa using h
theorem br_end {s : ByteArray} {k : Nat} {acc R : List UInt8} {q : Bool} (h : acc ++ bareP q (sfx s k) = R) (hk : ¬ k < s.size) : acc = R := by
  rw [sfx_nil hk, bare_nil] at h; simpa using h

set_option maxRecDepth 100000 in
set_option maxHeartbeats 4000000 in
theorem bare_any (s : ByteArray) (w : World) (hs : s.size ≤ 1000000) :
    Calls Tryd.prog 30 #[.string s] w fun e w' => e = .returned (.string ⟨(bareP false s.data.toList).toArray⟩) ∧ Below w.heap.size w w' := by
  obtain ⟨i0, hi, hz0, hz1, hz2⟩ := info_parts (P := Tryd.prog) (e := 5) (z := .int .u8 0) (size := 1) (bytes := 1) (by kernel_rfl)
  obtain ⟨R, hR⟩ : ∃ R, R = bareP false (sfx s 0) := ⟨_, rfl⟩
  rw [show bareP false s.data.toList = R by rw [hR]; rfl]
  have HS := Lib.hid (show BrAt s w w (.slice none 0 0) [] false 0 from ⟨rfl, Below.refl _ _, Own.nil _ _⟩)
  have HRR := Lib.hid hR
  clear hR
  go_enter Tryd.func30, Tryd.ntmps30
  go_wp2_with fail
  go_loopw [3, 4, 5] (fun v qv iv wr => ∃ (A : Option Addr) (c : Nat) (acc : List UInt8) (q : Bool) (k : Nat), v = .slice A acc.length c ∧ qv = .bool q ∧ iv = .int .i64 k ∧ k ≤ s.size ∧ acc.length ≤ k ∧ Hid (BrAt s w wr v acc q k)) (fun _ _ iv _ => s.size - (intOf iv).toNat)
  case atStart => exact ⟨none, 0, [], false, 0, rfl, rfl, rfl, Nat.zero_le _, Nat.zero_le _, HS⟩
  case round =>
    clear HS
    obtain ⟨A, c, acc, q, k, rfl, rfl, rfl, hk, hacc, HQ⟩ := hrel
    obtain ⟨hq1, hq2, hq3⟩ := HQ.out
    have HE := Lib.hid hq1
    have HB := Lib.hid hq2
    have HO := Lib.hid hq3
    have hzr := hq2.size
    clear hq1 hq2 hq3
    by_cases hlt : k < s.size
    · obtain ⟨x, hxx⟩ : ∃ x, x = s[k] := ⟨_, rfl⟩
      have hsx := hxx.symm
      have HSX := Lib.hid hsx
      clear hxx
      cases q
      · by_cases h32 : x.toNat = 32
        · have HX := Lib.hid (br_blank HE.out hlt (by rw [HSX.out]; exact h32))
          have e0 : ((x.toNat : Int) == 32) = true := by simp; omega
          clear h32
          go_wp2_with fail
          go_roundw
          case rel => exact ⟨A, c, acc, false, k + 1, rfl, rfl, rfl, by omega, by omega, Lib.hid ⟨HX.out, HB.out, HO.out⟩⟩
          case measure => simp [intOf]; omega
        · have e0 : ((x.toNat : Int) == 32) = false := by simp; omega
          by_cases h34 : x.toNat = 34
          · have HX := Lib.hid (br_out HE.out hlt HSX.out h32 (b := true) (by rw [UInt8.toNat_inj.1 (show x.toNat = (34 : UInt8).toNat from h34)]; rfl))
            have e1 : ((x.toNat : Int) == 34) = true := by simp; omega
            clear h32 h34
            go_wp2_with (at_builtin; refine wpList_append_own _ rfl _ _ 61 rfl w.heap.size 5 i0 (.int .u8 0) 1 1 Tryd.underlying61 hi hz0 hz1 hz2 rfl (by decide) _ _ _ rfl (World.ownsRow.alloc (HO.out) _) _ 1 1 [.int .u8 x.toNat] rfl rfl ?c1 ?c2 ?c3 ?c4 ?c5 ?_)
            case c1 =>
              intro i u hj
              match i, hj with
              | 0, hj => simp at hj; subst hj; simp [Addr.add]
            case c2 => intro u hu; simp at hu; subst hu; rfl
            case c3 => unfold maxLen; omega
            case c4 => omega
            case c5 => simp; omega
            intro v' w5 hown hgrow _
            have HO5 := Lib.hid (Own.push (x := x) hown)
            have HB5 := Lib.hid (below_own (below_al (HB.out) _) (World.ownsRow.alloc (HO.out) _) hgrow)
            have hsz5 := HB5.out.size
            clear hown hgrow
            obtain ⟨A5, c5, rfl⟩ := HO5.out.form
            go_wp2_with fail
            go_roundw
            case rel => exact ⟨A5, c5, acc ++ [x], true, k + 1, rfl, rfl, rfl, by omega, by simp; omega, Lib.hid ⟨HX.out, HB5.out, HO5.out⟩⟩
            case measure => simp [intOf]; omega
          · have HX := Lib.hid (br_out HE.out hlt HSX.out h32 (b := false) (by rw [beq_eq_false_iff_ne]; intro e; exact h34 (by rw [e]; rfl)))
            have e1 : ((x.toNat : Int) == 34) = false := by simp; omega
            clear h32 h34
            go_wp2_with (at_builtin; refine wpList_append_own _ rfl _ _ 61 rfl w.heap.size 5 i0 (.int .u8 0) 1 1 Tryd.underlying61 hi hz0 hz1 hz2 rfl (by decide) _ _ _ rfl (World.ownsRow.alloc (HO.out) _) _ 1 1 [.int .u8 x.toNat] rfl rfl ?c1 ?c2 ?c3 ?c4 ?c5 ?_)
            case c1 =>
              intro i u hj
              match i, hj with
              | 0, hj => simp at hj; subst hj; simp [Addr.add]
            case c2 => intro u hu; simp at hu; subst hu; rfl
            case c3 => unfold maxLen; omega
            case c4 => omega
            case c5 => simp; omega
            intro v' w5 hown hgrow _
            have HO5 := Lib.hid (Own.push (x := x) hown)
            have HB5 := Lib.hid (below_own (below_al (HB.out) _) (World.ownsRow.alloc (HO.out) _) hgrow)
            have hsz5 := HB5.out.size
            clear hown hgrow
            obtain ⟨A5, c5, rfl⟩ := HO5.out.form
            go_wp2_with fail
            go_roundw
            case rel => exact ⟨A5, c5, acc ++ [x], false, k + 1, rfl, rfl, rfl, by omega, by simp; omega, Lib.hid ⟨HX.out, HB5.out, HO5.out⟩⟩
            case measure => simp [intOf]; omega
      · have h32' : ((x.toNat : Int) == 32) = true ∨ ((x.toNat : Int) == 32) = false := by cases ((x.toNat : Int) == 32) <;> simp
        by_cases h92 : x.toNat = 92
        · have e0 : ((x.toNat : Int) == 32) = false := by simp; omega
          have e1 : ((x.toNat : Int) == 92) = true := by simp; omega
          have e2 : ((x.toNat : Int) == 34) = false := by simp; omega
          have hw1 : IntKind.i64.wrap ((k : Int) + 1) = (k : Int) + 1 := by rw [IntKind.wrap_i64]; omega
          by_cases hlt2 : k + 1 < s.size
          · obtain ⟨y, hyy⟩ : ∃ y, y = s[k + 1] := ⟨_, rfl⟩
            have hsy := hyy.symm
            have HX := Lib.hid (br_esc HE.out hlt HSX.out h92 hlt2 hsy)
            have hd2 : decide ((k : Int) + 1 < s.size) = true := by simp; omega
            clear h92 h32' hyy
            go_wp2_with (at_builtin; refine wpList_append_own _ rfl _ _ 61 rfl w.heap.size 5 i0 (.int .u8 0) 1 1 Tryd.underlying61 hi hz0 hz1 hz2 rfl (by decide) _ _ _ rfl (World.ownsRow.alloc (HO.out) _) _ 1 1 [.int .u8 x.toNat] rfl rfl ?c1 ?c2 ?c3 ?c4 ?c5 ?_)
            case c1 =>
              intro i u hj
              match i, hj with
              | 0, hj => simp at hj; subst hj; simp [Addr.add]
            case c2 => intro u hu; simp at hu; subst hu; rfl
            case c3 => unfold maxLen; omega
            case c4 => omega
            case c5 => simp; omega
            intro v' w4 hown hgrow _
            have HO4 := Lib.hid (Own.push (x := x) hown)
            have HB4 := Lib.hid (below_own (below_al (HB.out) _) (World.ownsRow.alloc (HO.out) _) hgrow)
            have hsz4 := HB4.out.size
            clear hown hgrow
            obtain ⟨A4, c4, rfl⟩ := HO4.out.form
            have hal5 : (acc ++ [x]).length ≤ k + 1 := by simp; omega
            obtain ⟨ac5, hac5⟩ : ∃ ac5, ac5 = acc ++ [x] := ⟨_, rfl⟩
            rw [← hac5] at HO4 HX hal5 ⊢
            clear hac5
            go_wp2_with (at_builtin; refine wpList_append_own _ rfl _ _ 61 rfl w.heap.size 5 i0 (.int .u8 0) 1 1 Tryd.underlying61 hi hz0 hz1 hz2 rfl (by decide) _ _ _ rfl (World.ownsRow.alloc (HO4.out) _) _ 1 1 [.int .u8 y.toNat] rfl rfl ?c1 ?c2 ?c3 ?c4 ?c5 ?_)
            case c1 =>
              intro i u hj
              match i, hj with
              | 0, hj => simp at hj; subst hj; simp [Addr.add]
            case c2 => intro u hu; simp at hu; subst hu; rfl
            case c3 => unfold maxLen; omega
            case c4 => omega
            case c5 => simp; omega
            intro v' w5 hown hgrow _
            have HO5 := Lib.hid (Own.push (x := y) hown)
            have HB5 := Lib.hid (below_own (below_al (HB4.out) _) (World.ownsRow.alloc (HO4.out) _) hgrow)
            have hsz5 := HB5.out.size
            clear hown hgrow
            obtain ⟨A5, c5, rfl⟩ := HO5.out.form
            go_wp2_with fail
            go_roundw
            case rel => exact ⟨A5, c5, ac5 ++ [y], true, k + 1 + 1, rfl, rfl, rfl, by omega, by simp; omega, Lib.hid ⟨HX.out, HB5.out, HO5.out⟩⟩
            case measure => simp [intOf]; omega
          · have HX := Lib.hid (br_last HE.out hlt HSX.out h92 hlt2)
            have hd2 : decide ((k : Int) + 1 < s.size) = false := by simp; omega
            clear h92 h32'
            go_wp2_with (at_builtin; refine wpList_append_own _ rfl _ _ 61 rfl w.heap.size 5 i0 (.int .u8 0) 1 1 Tryd.underlying61 hi hz0 hz1 hz2 rfl (by decide) _ _ _ rfl (World.ownsRow.alloc (HO.out) _) _ 1 1 [.int .u8 x.toNat] rfl rfl ?c1 ?c2 ?c3 ?c4 ?c5 ?_)
            case c1 =>
              intro i u hj
              match i, hj with
              | 0, hj => simp at hj; subst hj; simp [Addr.add]
            case c2 => intro u hu; simp at hu; subst hu; rfl
            case c3 => unfold maxLen; omega
            case c4 => omega
            case c5 => simp; omega
            intro v' w5 hown hgrow _
            have HO5 := Lib.hid (Own.push (x := x) hown)
            have HB5 := Lib.hid (below_own (below_al (HB.out) _) (World.ownsRow.alloc (HO.out) _) hgrow)
            have hsz5 := HB5.out.size
            clear hown hgrow
            obtain ⟨A5, c5, rfl⟩ := HO5.out.form
            go_wp2_with fail
            go_roundw
            case rel => exact ⟨A5, c5, acc ++ [x], true, k + 1, rfl, rfl, rfl, by omega, by simp; omega, Lib.hid ⟨HX.out, HB5.out, HO5.out⟩⟩
            case measure => simp [intOf]; omega
        · have e1 : ((x.toNat : Int) == 92) = false := by simp; omega
          by_cases h34 : x.toNat = 34
          · have HX := Lib.hid (br_in HE.out hlt HSX.out h92 (b := false) (by rw [UInt8.toNat_inj.1 (show x.toNat = (34 : UInt8).toNat from h34)]; rfl))
            have e0 : ((x.toNat : Int) == 32) = false := by simp; omega
            have e2 : ((x.toNat : Int) == 34) = true := by simp; omega
            clear h92 h34 h32'
            go_wp2_with (at_builtin; refine wpList_append_own _ rfl _ _ 61 rfl w.heap.size 5 i0 (.int .u8 0) 1 1 Tryd.underlying61 hi hz0 hz1 hz2 rfl (by decide) _ _ _ rfl (World.ownsRow.alloc (HO.out) _) _ 1 1 [.int .u8 x.toNat] rfl rfl ?c1 ?c2 ?c3 ?c4 ?c5 ?_)
            case c1 =>
              intro i u hj
              match i, hj with
              | 0, hj => simp at hj; subst hj; simp [Addr.add]
            case c2 => intro u hu; simp at hu; subst hu; rfl
            case c3 => unfold maxLen; omega
            case c4 => omega
            case c5 => simp; omega
            intro v' w5 hown hgrow _
            have HO5 := Lib.hid (Own.push (x := x) hown)
            have HB5 := Lib.hid (below_own (below_al (HB.out) _) (World.ownsRow.alloc (HO.out) _) hgrow)
            have hsz5 := HB5.out.size
            clear hown hgrow
            obtain ⟨A5, c5, rfl⟩ := HO5.out.form
            go_wp2_with fail
            go_roundw
            case rel => exact ⟨A5, c5, acc ++ [x], false, k + 1, rfl, rfl, rfl, by omega, by simp; omega, Lib.hid ⟨HX.out, HB5.out, HO5.out⟩⟩
            case measure => simp [intOf]; omega
          · have HX := Lib.hid (br_in HE.out hlt HSX.out h92 (b := true) (by rw [Bool.not_eq_true', beq_eq_false_iff_ne]; intro e; exact h34 (by rw [e]; rfl)))
            have e2 : ((x.toNat : Int) == 34) = false := by simp; omega
            clear h92 h34
            rcases h32' with e0 | e0
            all_goals
              go_wp2_with (at_builtin; refine wpList_append_own _ rfl _ _ 61 rfl w.heap.size 5 i0 (.int .u8 0) 1 1 Tryd.underlying61 hi hz0 hz1 hz2 rfl (by decide) _ _ _ rfl (World.ownsRow.alloc (HO.out) _) _ 1 1 [.int .u8 x.toNat] rfl rfl ?c1 ?c2 ?c3 ?c4 ?c5 ?_)
              case c1 =>
                intro i u hj
                match i, hj with
                | 0, hj => simp at hj; subst hj; simp [Addr.add]
              case c2 => intro u hu; simp at hu; subst hu; rfl
              case c3 => unfold maxLen; omega
              case c4 => omega
              case c5 => simp; omega
              intro v' w5 hown hgrow _
              have HO5 := Lib.hid (Own.push (x := x) hown)
              have HB5 := Lib.hid (below_own (below_al (HB.out) _) (World.ownsRow.alloc (HO.out) _) hgrow)
              have hsz5 := HB5.out.size
              clear hown hgrow
              obtain ⟨A5, c5, rfl⟩ := HO5.out.form
              go_wp2_with fail
              go_roundw
              case rel => exact ⟨A5, c5, acc ++ [x], true, k + 1, rfl, rfl, rfl, by omega, by simp; omega, Lib.hid ⟨HX.out, HB5.out, HO5.out⟩⟩
              case measure => simp [intOf]; omega
    · have HX := Lib.hid (br_end HE.out hlt)
      have hcv := own_string HO.out
      go_wp2_with fail
      go_ret
      exact ⟨by rw [HRR.out, ← HX.out]; rfl, HB.out⟩

theorem objsL_succ {l : List V} {x : V} {k : Nat} (h : l[k]? = some x) : V.objsL (l.take (k + 1)) = (V.objsL (l.take k) || x.objs) := by
  induction l generalizing k with
  | nil => simp at h
  | cons y r ih =>
    cases k with
    | zero => simp at h; subst h; simp [V.objsL]
    | succ k => simp at h; have := ih h; simp only [List.take_succ_cons, V.objsL] at *; rw [this, Bool.or_assoc]
theorem objsL_take {l : List V} {k : Nat} (h : V.objsL (l.take k) = true) : V.objsL l = true := by
  induction l generalizing k with
  | nil => simp [V.objsL] at h
  | cons y r ih =>
    cases k with
    | zero => simp [V.objsL] at h
    | succ k =>
      simp only [List.take_succ_cons, V.objsL, Bool.or_eq_true] at *
      exact h.imp id ih

set_option maxRecDepth 100000 in
set_option maxHeartbeats 4000000 in
theorem objects_any (N : Nat) : ∀ (x : V) (w : World) (A K : Option Addr) (c d : Nat), x.nodes ≤ N → Lies w w.heap.size x A c K d →
    Calls Tryd.prog 31 #[aggOf x A c K d] w fun e w' => e = .returned (.bool x.objs) ∧ Below w.heap.size w w' := by
  induction N with
  | zero => intro x w A K c d hx; have := x.nodes_pos; omega
  | succ N ih =>
    intro x w A K c d hxn hL
    obtain ⟨k, i, t, l, ks⟩ := x
    have IH := Lib.hid ih
    have hzw := Nat.le_refl w.heap.size
    have hnl : V.nodesL l ≤ N := by simp only [V.nodes] at hxn; omega
    have HL := Lib.hid hL
    have hlm : l.length ≤ 9223372036854775807 := by have := hL.items.1; have := hL.items.2.1; unfold maxLen at *; omega
    obtain ⟨n, hn⟩ : ∃ n, n = l.length := ⟨_, rfl⟩
    have HN := Lib.hid hn
    have HB0 := Lib.hid (show Below w.heap.size w (w.alloc (.cells #[.int .i64 k, .int .i64 i, .string t, .slice A n c, .slice K ks.length d] 25)) ∧ Boxed (w.alloc (.cells #[.int .i64 k, .int .i64 i, .string t, .slice A n c, .slice K ks.length d] 25)) w.heap.size (.mk k i t l ks) A c K d from ⟨below_al (Below.refl _ w) _, by rw [hn]; exact BlockIs.new w _ _⟩)
    show Calls Tryd.prog 31 #[.agg #[.int .i64 k, .int .i64 i, .string t, .slice A l.length c, .slice K ks.length d]] w fun e w' => e = .returned (.bool (V.objs (.mk k i t l ks))) ∧ Below w.heap.size w w'
    rw [← hn] at hlm ⊢
    clear ih hL hn
    by_cases h5 : k = 5
    · have e0 : (k == 5) = true := by simp [h5]
      have HE := Lib.hid (show V.objs (.mk k i t l ks) = true by rw [V.objs, e0]; rfl)
      clear h5
      go_enter Tryd.func31, Tryd.ntmps31
      go_wp2_with fail
      go_ret
      exact ⟨by rw [HE.out]; rfl, HB0.out.1⟩
    · have e0 : (k == 5) = false := by simpa using h5
      have HE := Lib.hid (show V.objs (.mk k i t l ks) = V.objsL l by rw [V.objs, e0]; rfl)
      clear h5
      go_enter Tryd.func31, Tryd.ntmps31
      go_wp2_with fail
      go_loopw [3] (fun iv wr => ∃ k' : Nat, iv = .int .i64 k' ∧ k' ≤ n ∧ Hid (V.objsL (l.take k') = false ∧ Below w.heap.size w wr ∧ Boxed wr w.heap.size (.mk k i t l ks) A c K d)) (fun iv _ => n - (intOf iv).toNat)
      case atStart => exact ⟨0, rfl, Nat.zero_le _, Lib.hid ⟨by simp [V.objsL], HB0.out.1, HB0.out.2⟩⟩
      case round =>
        obtain ⟨j, rfl, hj, HA⟩ := hrel
        have HU := Lib.hid HA.out.1
        have HB := Lib.hid HA.out.2
        obtain ⟨x0, x1, x2, x3, x4⟩ := HB.out.2.cells
        simp only [V.kind, V.int, V.text, V.items, V.keys] at x0 x1 x2 x3 x4
        rw [← HN.out] at x3
        have hzr := HB.out.1.size
        clear HA
        by_cases hlt : j < n
        · have hlt1 : j < l.length := by rw [← HN.out]; exact hlt
          have hk1 := (Lies.items HL.out).keep (w' := wr) (bcell HB.out.1) (HB.out.1.size)
          obtain ⟨b, o, rfl, hb1, hf1⟩ := hk1.at_ (k := j) hlt1
          obtain ⟨y, hy⟩ : ∃ y, l[j]? = some y := ⟨_, List.getElem?_eq_getElem hlt1⟩
          obtain ⟨Ay, cy, Ky, dy, y0, y1, y2, y3, y4, hly⟩ := hf1.at_ hy
          have hyn : y.nodes ≤ N := by have := V.nodes_mem (List.mem_of_getElem? hy); omega
          obtain ⟨r, hr⟩ : ∃ r, r = y.objs := ⟨_, rfl⟩
          have HC := Lib.hid (show Calls Tryd.prog 31 #[.agg #[.int .i64 y.kind, .int .i64 y.int, .string y.text, .slice Ay y.items.length cy, .slice Ky y.keys.length dy]] wr fun e w' => e = .returned (.bool r) ∧ Below wr.heap.size wr w' by
            rw [hr]; exact IH.out y wr Ay Ky cy dy hyn hly)
          have HW := Lib.hid (objsL_succ hy)
          rw [← hr] at HW
          have h0 : 0 ≤ (j : Int) := by omega
          have h1 : (j : Int) < n := by omega
          clear hlt1 hk1 hf1 hy hly hyn hr
          cases r
          · go_wp2_with fail
            refine (HC.out).mono ?_
            rintro e w1 ⟨rfl, hb2⟩
            have HB1 := Lib.hid (And.intro (below_on HB.out.1 hb2) (HB.out.2.on hb2))
            clear hb2 x0 x1 x2 x3 x4 y0 y1 y2 y3 y4
            go_wp2_with fail
            go_roundw
            case rel => exact ⟨j + 1, rfl, by omega, Lib.hid ⟨by rw [HW.out, HU.out]; rfl, HB1.out.1, HB1.out.2⟩⟩
            case measure => simp [intOf]; omega
          · go_wp2_with fail
            refine (HC.out).mono ?_
            rintro e w1 ⟨rfl, hb2⟩
            have HB1 := Lib.hid (below_on HB.out.1 hb2)
            clear hb2 x0 x1 x2 x3 x4 y0 y1 y2 y3 y4
            go_wp2_with fail
            go_ret
            exact ⟨by rw [HE.out, objsL_take (k := j + 1) (by rw [HW.out]; simp)]; rfl, HB1.out⟩
        · go_wp2_with fail
          go_ret
          refine ⟨?_, HB.out.1⟩
          have h := HU.out
          rw [List.take_of_length_le (by rw [← HN.out]; omega)] at h
          rw [HE.out, h]
          rfl
end Go.Proofs.YtpdmnajcbdfkgaaDoor
