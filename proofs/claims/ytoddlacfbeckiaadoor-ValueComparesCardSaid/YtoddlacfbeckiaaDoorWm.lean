/- Reading: texts in quotes. -/
import Derived.Test.YtoddlacfbeckiaaDoorWl
import Derived.Test.YtoddlacfbeckiaaDoorWa
namespace Go.Proofs.YtoddlacfbeckiaaDoor
open Go.RowKit

/-- A row of bytes of the call's own. -/
def Own (B : Nat) (v : Value) (l : List UInt8) (w : World) : Prop := w.ownsRow B 5 1 v l.length (Lib.byteCells l)
theorem Own.nil (B : Nat) (w : World) : Own B (.slice none 0 0) [] w := World.ownsRow_nil _ _ _ _
theorem Own.went {g B : Nat} {s : ByteArray} {k n : Nat} {v : Value} {l : List UInt8} {a b : World} (h : Own B v l a) (hw : Went g s k n a b) (hg : g < B) : Own B v l b := by
  refine World.ownsRow.kept h hw.1 ?_
  rcases hb : v.ownBlock with _ | q
  · exact .inl rfl
  · exact .inr (fun e => by rw [Option.some.injEq] at e; have := (World.ownsRow.lt h q hb).1; omega)
theorem Went.own {g B : Nat} {s : ByteArray} {k n : Nat} {v : Value} {l : List UInt8} {w a b : World} (hw : Went g s k n w a) (h : Own B v l a) (hg : g < w.heap.size) (hB : B = w.heap.size) (hab : a.grownBy b v.ownBlock) : Went g s k n w b := by
  subst hB
  have hne : some g ≠ v.ownBlock := fun e => by have := (World.ownsRow.lt h g e.symm).1; omega
  refine ⟨⟨hab.os.trans hw.1.os, hab.tape.trans hw.1.tape, hab.output.trans hw.1.output, Nat.le_trans hw.1.size hab.size, fun i hi hne' => ?_⟩, Blk.grown hw.2 hab hne⟩
  refine (hab.block i (Nat.lt_of_lt_of_le hi hw.1.size) (fun e => ?_)).trans (hw.1.block i hi hne')
  have := (World.ownsRow.lt h i e.symm).1
  omega
theorem own_string {B : Nat} {v : Value} {l : List UInt8} {w : World} (h : Own B v l w) : (convert 57 9 v).run Tryd.prog w = .ok (.string ⟨l.toArray⟩) w := by
  have h' := h
  obtain ⟨hl, h | ⟨g, cap, cur, hv, hB, hc, hn, hcap, hcs, ht⟩⟩ := h
  · obtain ⟨rfl, h0⟩ := h
    have : l = [] := List.length_eq_zero_iff.1 h0
    subst this
    rw [run_convert_bytes_string w _ _ 5 none 0 0 Tryd.underlying57 Tryd.underlying5 Tryd.underlying9]
    rfl
  · subst hv
    refine run_convert_bytes_back w _ _ 5 ⟨g, 0, none⟩ cap l Tryd.underlying57 Tryd.underlying5 Tryd.underlying9 ?_
    intro j hj
    exact World.ownsRow.cells h' rfl j _ (by simp [Lib.byteCells, hj])
theorem Own.form {B : Nat} {v : Value} {l : List UInt8} {w : World} (h : Own B v l w) : ∃ A c, v = .slice A l.length c := by
  obtain ⟨hl, h | ⟨g, cap, cur, hv, hB, hc, hn, hcap, hcs, ht⟩⟩ := h
  · obtain ⟨rfl, h0⟩ := h
    exact ⟨none, 0, by rw [h0]⟩
  · exact ⟨_, _, hv⟩

/-- Where the reading of a text stands. -/
def QAt (g : Nat) (s : ByteArray) (n : Nat) (R : Option (List UInt8 × List UInt8)) (w wr : World) (v : Value) (j : Nat) (acc : List UInt8) (ch : UInt8) : Prop :=
  j ≤ s.size ∧ acc.length ≤ 100 ∧ textP (ch :: sfx s j) acc = R ∧ Went g s j n w wr ∧ Own w.heap.size v acc wr
/-- What quoted leaves. -/
def QPost (g : Nat) (s : ByteArray) (n : Nat) (w : World) : Option (List UInt8 × List UInt8) → Ending → World → Prop
  | none, e, w' => e = .panicked boom ∧ w.grownBy w' (some g)
  | some (t, l), e, w' => e = .returned (.string ⟨t.toArray⟩) ∧ ∃ k, k ≤ s.size ∧ sfx s k = l ∧ Went g s k n w w'

theorem tx_plain {c : UInt8} {r acc : List UInt8} (h1 : ¬ c.toNat = 34) (h2 : ¬ c.toNat = 92) (hv : visB c = true) (hl : acc.length < 100) : textP (c :: r) acc = textP r (acc ++ [c]) := by
  rw [textP_cons, if_neg (fun e => h1 (by rw [e]; rfl)), if_neg (fun e => h2 (by rw [e]; rfl)), if_pos ⟨hv, hl⟩]
theorem tx_bad {c : UInt8} {r acc : List UInt8} (h1 : ¬ c.toNat = 34) (h2 : ¬ c.toNat = 92) (hv : ¬ (visB c = true ∧ acc.length < 100)) : textP (c :: r) acc = none := by
  rw [textP_cons, if_neg (fun e => h1 (by rw [e]; rfl)), if_neg (fun e => h2 (by rw [e]; rfl)), if_neg hv]
theorem tx_end {c : UInt8} {r acc : List UInt8} (h1 : c.toNat = 34) : textP (c :: r) acc = some (acc, r) := by
  rw [textP_cons, if_pos (UInt8.toNat_inj.1 h1)]
theorem tx_esc {c x : UInt8} {r acc : List UInt8} (h1 : c.toNat = 92) (hx : x.toNat = 34 ∨ x.toNat = 92) (hl : acc.length < 100) : textP (c :: x :: r) acc = textP r (acc ++ [x]) := by
  rw [UInt8.toNat_inj.1 (show c.toNat = (92 : UInt8).toNat from h1), textP_cons, if_neg (by decide), if_pos rfl]
  show (if _ then _ else _) = _
  rw [if_pos ⟨hx.imp (fun e => UInt8.toNat_inj.1 e) (fun e => UInt8.toNat_inj.1 e), hl⟩]
theorem tx_esc0 {c : UInt8} {acc : List UInt8} (h1 : c.toNat = 92) : textP [c] acc = none := by
  rw [UInt8.toNat_inj.1 (show c.toNat = (92 : UInt8).toNat from h1), textP_cons, if_neg (by decide), if_pos rfl]
theorem tx_escbad {c x : UInt8} {r acc : List UInt8} (h1 : c.toNat = 92) (hx : ¬ ((x.toNat = 34 ∨ x.toNat = 92) ∧ acc.length < 100)) : textP (c :: x :: r) acc = none := by
  rw [UInt8.toNat_inj.1 (show c.toNat = (92 : UInt8).toNat from h1), textP_cons, if_neg (by decide), if_pos rfl]
  show (if _ then _ else _) = _
  rw [if_neg (fun e => hx ⟨e.1.imp (fun e => by rw [e]; rfl) (fun e => by rw [e]; rfl), e.2⟩)]

theorem Own.push {B : Nat} {v : Value} {acc : List UInt8} {x : UInt8} {w : World} (h : w.ownsRow B 5 1 v (acc.length + 1) (Lib.byteCells acc ++ [.int .u8 x.toNat])) : Own B v (acc ++ [x]) w := by
  simpa [Own, Lib.byteCells] using h
theorem vis_esc {x : UInt8} (h : x.toNat = 34 ∨ x.toNat = 92) : visB x = true := by unfold visB; simp; omega

set_option maxRecDepth 100000 in
set_option maxHeartbeats 4000000 in
theorem quoted_any (g : Nat) (s : ByteArray) (k n : Nat) (w : World) (h : PAt w g s k n) (hk : k ≤ s.size) (hs : s.size ≤ 1000000) :
    Calls Tryd.prog 70 #[.pointer (some ⟨g, 0, none⟩)] w (QPost g s n w (quotedP (sfx s k))) := by
  have hg := h.lt
  have HW0 := Lib.hid (Went.refl h)
  obtain ⟨i0, hi, hz0, hz1, hz2⟩ := info_parts (P := Tryd.prog) (e := 5) (z := .int .u8 0) (size := 1) (bytes := 1) (by kernel_rfl)
  have HY := Lib.hid fun (W : World) (j : Nat) (hW : PAt W g s j n) (hj : j < s.size) => next_yes g s j n W hW hj hs
  have HN := Lib.hid fun (W : World) (j : Nat) (hW : PAt W g s j n) (hj : ¬ j < s.size) => next_no g s j n W hW hj
  obtain ⟨R, hR⟩ : ∃ R, R = quotedP (sfx s k) := ⟨_, rfl⟩
  rw [← hR]
  have HR := Lib.hid hR
  clear h hR
  by_cases hk0 : k < s.size
  · by_cases hq : s[k].toNat = 34
    · have e0 : ((s[k].toNat : Int) == 34) = true := by simp; omega
      have HR1 := Lib.hid (show textP (sfx s (k + 1)) [] = R by rw [HR.out, sfx_cons hk0, quotedP, if_pos (UInt8.toNat_inj.1 hq)])
      clear hq
      go_enter Tryd.func70, Tryd.ntmps70
      go_wp2_with fail
      refine (HY.out _ k HW0.out.2 hk0).mono ?_
      rintro e w1 ⟨rfl, hw1⟩
      have HW1 := Lib.hid (HW0.out.trans hw1)
      clear hw1
      go_wp2_with (go_at_call 50; refine (must_yes _ _).mono ?_; rintro e w' ⟨rfl, rfl⟩)
      by_cases hk1 : k + 1 < s.size
      · refine (HY.out _ (k + 1) HW1.out.2 hk1).mono ?_
        rintro e w2 ⟨rfl, hw2⟩
        have HA := Lib.hid (show QAt g s n R w w2 (.slice none 0 0) (k + 1 + 1) [] s[k + 1] from ⟨by omega, by simp, by rw [← sfx_cons hk1]; exact HR1.out, HW1.out.trans hw2, Own.nil _ _⟩)
        clear hw2
        go_wp2_with fail
        go_loopw [3, 4] (fun v x wr => ∃ (A : Option Addr) (c j : Nat) (acc : List UInt8) (ch : UInt8), v = .slice A acc.length c ∧ x = .int .u8 ch.toNat ∧ Hid (QAt g s n R w wr v j acc ch)) (fun _ _ wr => s.size - posOf g wr)
        case atStart => exact ⟨none, 0, k + 1 + 1, [], s[k + 1], rfl, rfl, HA⟩
        case round =>
          clear HA HW1 HR1 HR
          obtain ⟨A, c, j, acc, ch, rfl, rfl, HQ⟩ := hrel
          have HQ' := HQ.out
          obtain ⟨hj, hacc, htx, hX, hO⟩ := HQ'
          have hmm := Lib.hid hX.2.pos
          have HT0 := Lib.hid htx
          have HX0 := Lib.hid hX
          have HO0 := Lib.hid hO
          clear hX hO htx
          by_cases h34 : ch.toNat = 34
          · have e1 : ((ch.toNat : Int) != 34) = false := by simp; omega
            have HE := Lib.hid ((tx_end (r := sfx s j) (acc := acc) h34).symm.trans HT0.out)
            have hcv := own_string HO0.out
            clear h34
            go_wp2_with fail
            go_ret
            rw [← HE.out]
            exact ⟨rfl, j, hj, rfl, HX0.out⟩
          have e1 : ((ch.toNat : Int) != 34) = true := by simp; omega
          by_cases h92 : ch.toNat = 92
          · have e2 : ((ch.toNat : Int) == 92) = true := by simp; omega
            by_cases hjs : j < s.size
            · have HT1 := Lib.hid (show textP (ch :: s[j] :: sfx s (j + 1)) acc = R by rw [← sfx_cons hjs]; exact HT0.out)
              have H92 := Lib.hid h92
              have H34 := Lib.hid h34
              clear h34 h92
              go_wp2_with fail
              refine (HY.out _ j HX0.out.2 hjs).mono ?_
              rintro e w1 ⟨rfl, hw1⟩
              have HX := Lib.hid (HX0.out.trans hw1)
              have HO := Lib.hid (HO0.out.went hw1 hg)
              clear hw1
              by_cases hx : s[j].toNat = 34 ∨ s[j].toNat = 92
              · have HVX := Lib.hid (vis_esc hx)
                have HV := Lib.hid fun W => show Calls Tryd.prog 94 #[.int .u8 s[j].toNat] W fun e w' => e = .returned (.bool true) ∧ w' = W from by have := visible_any s[j] W; rw [HVX.out] at this; exact this
                by_cases hlen : acc.length < 100
                · have HT := Lib.hid ((tx_esc (r := sfx s (j + 1)) H92.out hx hlen).symm.trans HT1.out)
                  obtain ⟨x, hxx⟩ : ∃ x, x = s[j] := ⟨_, rfl⟩
                  obtain ⟨jj, hjj⟩ : ∃ jj, jj = j + 1 := ⟨_, rfl⟩
                  obtain ⟨wx, hwx⟩ : ∃ wx, wx = w1 := ⟨_, rfl⟩
                  have hJ := Lib.hid (show j ≤ jj by omega)
                  rw [← hxx] at HT HV hx ⊢
                  rw [← hjj] at HT HX
                  subst hwx
                  clear hxx hjj HVX HT1
                  rcases hx with hx | hx
                  · have e3 : ((x.toNat : Int) == 34) = true := by simp; omega
                    clear hx
                    go_wp2_with (go_at_call 50; refine (must_yes _ _).mono ?_; rintro e w' ⟨rfl, rfl⟩)
                    -- HX : Hid (Went g s jj n w wx) · HO : Hid (Own w.heap.size (.slice A acc.length c) acc wx) · HT : Hid (textP (sfx s jj) (acc ++ [x]) = R) · HV : visB x = true · hlen : acc.length < 100
                    have hzx := HX.out.1.size
                    have HLN := Lib.hid hlen
                    go_wp2_with fail
                    refine (HV.out _).mono ?_
                    rintro e w' ⟨rfl, rfl⟩
                    go_wp2_with fail
                    refine (must_on (decide_eq_true (show (acc.length : Int) < 100 by have := HLN.out; omega)) _ _).mono ?_
                    rintro e w' ⟨rfl, rfl⟩
                    go_wp2_with (at_builtin; refine wpList_append_own _ rfl _ _ 57 rfl w.heap.size 5 i0 (.int .u8 0) 1 1 Tryd.underlying57 hi hz0 hz1 hz2 rfl (by decide) _ _ _ rfl (World.ownsRow.alloc HO.out _) _ 1 1 [.int .u8 x.toNat] rfl rfl ?c1 ?c2 ?c3 ?c4 ?c5 ?_)
                    case c1 =>
                      intro i u hj
                      match i, hj with
                      | 0, hj => simp at hj; subst hj; simp [Addr.add]
                    case c2 => intro u hu; simp at hu; subst hu; rfl
                    case c3 => unfold maxLen; omega
                    case c4 => omega
                    case c5 => simp; omega
                    intro v' w5 hown hgrow _
                    have HX5 := Lib.hid (Went.own (HX.out.alloc _) (World.ownsRow.alloc HO.out _) hg rfl hgrow)
                    have HO5 := Lib.hid (Own.push hown)
                    clear hown hgrow
                    obtain ⟨A5, c5, rfl⟩ := HO5.out.form
                    go_wp2_with fail
                    by_cases hj2 : jj < s.size
                    · refine (HY.out _ jj HX5.out.2 hj2).mono ?_
                      rintro e w6 ⟨rfl, hw6⟩
                      have HX6 := Lib.hid (HX5.out.trans hw6)
                      have HO6 := Lib.hid (HO5.out.went hw6 hg)
                      clear hw6
                      go_wp2_with fail
                      go_roundw
                      case rel => exact ⟨A5, c5, jj + 1, acc ++ [x], s[jj], by simp, rfl, Lib.hid ⟨by omega, by simp; omega, by rw [← sfx_cons hj2]; exact HT.out, HX6.out, by have hh := HO6.out; rw [List.length_append] at hh; exact hh⟩⟩
                      case measure => rw [hmm.out, HX6.out.2.pos]; have := hJ.out; omega
                    · refine (HN.out _ jj HX5.out.2 hj2).mono ?_
                      rintro e w6 ⟨rfl, hw6⟩
                      refine ⟨rfl, ?_⟩
                      rw [← HT.out, sfx_nil hj2]
                      exact ⟨rfl, grow_trans HX5.out.1 hw6⟩
                  · have e3 : ((x.toNat : Int) == 34) = false := by simp; omega
                    have e4 : ((x.toNat : Int) == 92) = true := by simp; omega
                    clear hx
                    go_wp2_with (go_at_call 50; refine (must_yes _ _).mono ?_; rintro e w' ⟨rfl, rfl⟩)
                    -- HX : Hid (Went g s jj n w wx) · HO : Hid (Own w.heap.size (.slice A acc.length c) acc wx) · HT : Hid (textP (sfx s jj) (acc ++ [x]) = R) · HV : visB x = true · hlen : acc.length < 100
                    have hzx := HX.out.1.size
                    have HLN := Lib.hid hlen
                    go_wp2_with fail
                    refine (HV.out _).mono ?_
                    rintro e w' ⟨rfl, rfl⟩
                    go_wp2_with fail
                    refine (must_on (decide_eq_true (show (acc.length : Int) < 100 by have := HLN.out; omega)) _ _).mono ?_
                    rintro e w' ⟨rfl, rfl⟩
                    go_wp2_with (at_builtin; refine wpList_append_own _ rfl _ _ 57 rfl w.heap.size 5 i0 (.int .u8 0) 1 1 Tryd.underlying57 hi hz0 hz1 hz2 rfl (by decide) _ _ _ rfl (World.ownsRow.alloc HO.out _) _ 1 1 [.int .u8 x.toNat] rfl rfl ?c1 ?c2 ?c3 ?c4 ?c5 ?_)
                    case c1 =>
                      intro i u hj
                      match i, hj with
                      | 0, hj => simp at hj; subst hj; simp [Addr.add]
                    case c2 => intro u hu; simp at hu; subst hu; rfl
                    case c3 => unfold maxLen; omega
                    case c4 => omega
                    case c5 => simp; omega
                    intro v' w5 hown hgrow _
                    have HX5 := Lib.hid (Went.own (HX.out.alloc _) (World.ownsRow.alloc HO.out _) hg rfl hgrow)
                    have HO5 := Lib.hid (Own.push hown)
                    clear hown hgrow
                    obtain ⟨A5, c5, rfl⟩ := HO5.out.form
                    go_wp2_with fail
                    by_cases hj2 : jj < s.size
                    · refine (HY.out _ jj HX5.out.2 hj2).mono ?_
                      rintro e w6 ⟨rfl, hw6⟩
                      have HX6 := Lib.hid (HX5.out.trans hw6)
                      have HO6 := Lib.hid (HO5.out.went hw6 hg)
                      clear hw6
                      go_wp2_with fail
                      go_roundw
                      case rel => exact ⟨A5, c5, jj + 1, acc ++ [x], s[jj], by simp, rfl, Lib.hid ⟨by omega, by simp; omega, by rw [← sfx_cons hj2]; exact HT.out, HX6.out, by have hh := HO6.out; rw [List.length_append] at hh; exact hh⟩⟩
                      case measure => rw [hmm.out, HX6.out.2.pos]; have := hJ.out; omega
                    · refine (HN.out _ jj HX5.out.2 hj2).mono ?_
                      rintro e w6 ⟨rfl, hw6⟩
                      refine ⟨rfl, ?_⟩
                      rw [← HT.out, sfx_nil hj2]
                      exact ⟨rfl, grow_trans HX5.out.1 hw6⟩
                · have HT := Lib.hid (show R = none by rw [← HT1.out, tx_escbad H92.out (fun e => hlen e.2)])
                  obtain ⟨x, hxx⟩ : ∃ x, x = s[j] := ⟨_, rfl⟩
                  rw [← hxx] at HV hx ⊢
                  clear hxx HVX HT1
                  rcases hx with hx | hx
                  · have e3 : ((x.toNat : Int) == 34) = true := by simp; omega
                    clear hx
                    go_wp2_with (go_at_call 50; refine (must_yes _ _).mono ?_; rintro e w' ⟨rfl, rfl⟩)
                    go_wp2_with fail
                    refine (HV.out _).mono ?_
                    rintro e w' ⟨rfl, rfl⟩
                    go_wp2_with fail
                    refine (must_of (decide_eq_false (show ¬ (acc.length : Int) < 100 by omega)) _ _).mono ?_
                    rintro e w' ⟨rfl, rfl⟩
                    refine ⟨rfl, ?_⟩
                    rw [HT.out]
                    exact ⟨rfl, HX.out.1⟩
                  · have e3 : ((x.toNat : Int) == 34) = false := by simp; omega
                    have e4 : ((x.toNat : Int) == 92) = true := by simp; omega
                    clear hx
                    go_wp2_with (go_at_call 50; refine (must_yes _ _).mono ?_; rintro e w' ⟨rfl, rfl⟩)
                    go_wp2_with fail
                    refine (HV.out _).mono ?_
                    rintro e w' ⟨rfl, rfl⟩
                    go_wp2_with fail
                    refine (must_of (decide_eq_false (show ¬ (acc.length : Int) < 100 by omega)) _ _).mono ?_
                    rintro e w' ⟨rfl, rfl⟩
                    refine ⟨rfl, ?_⟩
                    rw [HT.out]
                    exact ⟨rfl, HX.out.1⟩
              · have HT := Lib.hid (show R = none by rw [← HT1.out, tx_escbad H92.out (fun e => hx e.1)])
                have e3 : ((s[j].toNat : Int) == 34) = false := by simp; omega
                have e4 : ((s[j].toNat : Int) == 92) = false := by simp; omega
                clear hx HT1
                go_wp2_with (go_at_call 50; refine (must_no _ _).mono ?_; rintro e w' ⟨rfl, rfl⟩)
                refine ⟨rfl, ?_⟩
                rw [HT.out]
                exact ⟨rfl, HX.out.1⟩
            · have HT1 := Lib.hid (show R = none by rw [← HT0.out, sfx_nil hjs, tx_esc0 h92])
              clear h34 h92
              go_wp2_with fail
              refine (HN.out _ j HX0.out.2 hjs).mono ?_
              rintro e w1 ⟨rfl, hw1⟩
              refine ⟨rfl, ?_⟩
              rw [HT1.out]
              exact ⟨rfl, grow_trans HX0.out.1 hw1⟩
          · have e2 : ((ch.toNat : Int) == 92) = false := by simp; omega
            by_cases hv : visB ch = true
            · by_cases hlen : acc.length < 100
              · have HT := Lib.hid ((tx_plain (r := sfx s j) h34 h92 hv hlen).symm.trans HT0.out)
                have HV := Lib.hid fun W => show Calls Tryd.prog 94 #[.int .u8 ch.toNat] W fun e w' => e = .returned (.bool true) ∧ w' = W from by have := visible_any ch W; rw [hv] at this; exact this
                have HX := HX0
                have HO := HO0
                obtain ⟨jj, hjj⟩ : ∃ jj, jj = j := ⟨_, rfl⟩
                have hJ := Lib.hid (show j ≤ jj by omega)
                obtain ⟨x, hx⟩ : ∃ x, x = ch := ⟨_, rfl⟩
                obtain ⟨wx, hwx⟩ : ∃ wx, wx = wr := ⟨_, rfl⟩
                clear h34 h92 hv
                subst hjj hx hwx
                -- HX : Hid (Went g s jj n w wx) · HO : Hid (Own w.heap.size (.slice A acc.length c) acc wx) · HT : Hid (textP (sfx s jj) (acc ++ [x]) = R) · HV : visB x = true · hlen : acc.length < 100
                have hzx := HX.out.1.size
                have HLN := Lib.hid hlen
                go_wp2_with fail
                refine (HV.out _).mono ?_
                rintro e w' ⟨rfl, rfl⟩
                go_wp2_with fail
                refine (must_on (decide_eq_true (show (acc.length : Int) < 100 by have := HLN.out; omega)) _ _).mono ?_
                rintro e w' ⟨rfl, rfl⟩
                go_wp2_with (at_builtin; refine wpList_append_own _ rfl _ _ 57 rfl w.heap.size 5 i0 (.int .u8 0) 1 1 Tryd.underlying57 hi hz0 hz1 hz2 rfl (by decide) _ _ _ rfl (World.ownsRow.alloc HO.out _) _ 1 1 [.int .u8 x.toNat] rfl rfl ?c1 ?c2 ?c3 ?c4 ?c5 ?_)
                case c1 =>
                  intro i u hj
                  match i, hj with
                  | 0, hj => simp at hj; subst hj; simp [Addr.add]
                case c2 => intro u hu; simp at hu; subst hu; rfl
                case c3 => unfold maxLen; omega
                case c4 => omega
                case c5 => simp; omega
                intro v' w5 hown hgrow _
                have HX5 := Lib.hid (Went.own (HX.out.alloc _) (World.ownsRow.alloc HO.out _) hg rfl hgrow)
                have HO5 := Lib.hid (Own.push hown)
                clear hown hgrow
                obtain ⟨A5, c5, rfl⟩ := HO5.out.form
                go_wp2_with fail
                by_cases hj2 : jj < s.size
                · refine (HY.out _ jj HX5.out.2 hj2).mono ?_
                  rintro e w6 ⟨rfl, hw6⟩
                  have HX6 := Lib.hid (HX5.out.trans hw6)
                  have HO6 := Lib.hid (HO5.out.went hw6 hg)
                  clear hw6
                  go_wp2_with fail
                  go_roundw
                  case rel => exact ⟨A5, c5, jj + 1, acc ++ [x], s[jj], by simp, rfl, Lib.hid ⟨by omega, by simp; omega, by rw [← sfx_cons hj2]; exact HT.out, HX6.out, by have hh := HO6.out; rw [List.length_append] at hh; exact hh⟩⟩
                  case measure => rw [hmm.out, HX6.out.2.pos]; have := hJ.out; omega
                · refine (HN.out _ jj HX5.out.2 hj2).mono ?_
                  rintro e w6 ⟨rfl, hw6⟩
                  refine ⟨rfl, ?_⟩
                  rw [← HT.out, sfx_nil hj2]
                  exact ⟨rfl, grow_trans HX5.out.1 hw6⟩
              · have HT := Lib.hid (show R = none by rw [← HT0.out, tx_bad h34 h92 (fun e => hlen e.2)])
                have HV := Lib.hid fun W => show Calls Tryd.prog 94 #[.int .u8 ch.toNat] W fun e w' => e = .returned (.bool true) ∧ w' = W from by have := visible_any ch W; rw [hv] at this; exact this
                have HX := HX0
                clear h34 h92 hv
                go_wp2_with fail
                refine (HV.out _).mono ?_
                rintro e w' ⟨rfl, rfl⟩
                go_wp2_with fail
                refine (must_of (decide_eq_false (show ¬ (acc.length : Int) < 100 by omega)) _ _).mono ?_
                rintro e w' ⟨rfl, rfl⟩
                refine ⟨rfl, ?_⟩
                rw [HT.out]
                exact ⟨rfl, HX.out.1⟩
            · have HT := Lib.hid (show R = none by rw [← HT0.out, tx_bad h34 h92 (fun e => hv e.1)])
              have HV := Lib.hid fun W => show Calls Tryd.prog 94 #[.int .u8 ch.toNat] W fun e w' => e = .returned (.bool false) ∧ w' = W from by have := visible_any ch W; rw [show visB ch = false by simpa using hv] at this; exact this
              have HX := HX0
              clear h34 h92 hv
              go_wp2_with fail
              refine (HV.out _).mono ?_
              rintro e w' ⟨rfl, rfl⟩
              go_wp2_with (go_at_call 50; refine (must_no _ _).mono ?_; rintro e w' ⟨rfl, rfl⟩)
              refine ⟨rfl, ?_⟩
              rw [HT.out]
              exact ⟨rfl, HX.out.1⟩
      · refine (HN.out _ (k + 1) HW1.out.2 hk1).mono ?_
        rintro e w2 ⟨rfl, hw2⟩
        refine ⟨rfl, ?_⟩
        rw [← HR1.out, sfx_nil hk1]
        exact ⟨rfl, grow_trans HW1.out.1 hw2⟩
    · have e0 : ((s[k].toNat : Int) == 34) = false := by simp; omega
      have HR1 := Lib.hid (show R = none by rw [HR.out, sfx_cons hk0, quotedP, if_neg (fun e => hq (by rw [e]; rfl))])
      clear hq
      go_enter Tryd.func70, Tryd.ntmps70
      go_wp2_with fail
      refine (HY.out _ k HW0.out.2 hk0).mono ?_
      rintro e w1 ⟨rfl, hw1⟩
      have HW1 := Lib.hid (HW0.out.trans hw1)
      clear hw1
      go_wp2_with (go_at_call 50; refine (must_no _ _).mono ?_; rintro e w' ⟨rfl, rfl⟩)
      refine ⟨rfl, ?_⟩
      rw [HR1.out]
      exact ⟨rfl, HW1.out.1⟩
  · go_enter Tryd.func70, Tryd.ntmps70
    go_wp2_with fail
    refine (HN.out _ k HW0.out.2 hk0).mono ?_
    rintro e w1 ⟨rfl, hw1⟩
    refine ⟨rfl, ?_⟩
    rw [HR.out, sfx_nil hk0]
    exact ⟨rfl, hw1⟩
end Go.Proofs.YtoddlacfbeckiaaDoor
