/- The specification's reader: words and texts. -/
import Derived.Test.YtcbcfcokfjfffaaDoorRv
namespace Go.Proofs.YtcbcfcokfjfffaaDoor
open Go.RowKit

theorem prefix_cut {s p : ByteArray} {k : Nat} (_hle : k + p.size ≤ s.size) : ((s.extract k (k + p.size)).toList == p.toList) = Lib.hasPrefix (sfx s k) p.data.toList := by
  have h1 : (s.extract k (k + p.size)).toList = (sfx s k).take p.size := by
    rw [ByteArray.toList_eq]
    unfold sfx
    simp
  have hl : p.data.toList.length = p.size := by simp
  rw [h1, ByteArray.toList_eq, Bool.eq_iff_iff, beq_iff_eq]
  constructor
  · intro e
    have : sfx s k = p.data.toList ++ (sfx s k).drop p.size := by rw [← e, List.take_append_drop]
    rw [this]
    simp [Lib.hasPrefix]
  · intro e
    have := prefix_is e
    rw [this, ← hl, List.take_left]
theorem prefix_long {s p : ByteArray} {k : Nat} (hle : ¬ k + p.size ≤ s.size) (hk : k ≤ s.size) : Lib.hasPrefix (sfx s k) p.data.toList = false := by
  cases h : Lib.hasPrefix (sfx s k) p.data.toList with
  | false => rfl
  | true =>
    have h1 := congrArg List.length (prefix_is h)
    rw [List.length_append, sfx_length] at h1
    simp at h1
    omega

set_option maxRecDepth 100000 in
set_option maxHeartbeats 4000000 in
theorem word_takes (g : Nat) (s p : ByteArray) (k : Nat) (bl bd b : Bool) (w : World) (h : RAt w g s k bl bd) (hk : k ≤ s.size) (hs : s.size ≤ 1000000) (hp : p.size ≤ 1000) (hb : Lib.hasPrefix (sfx s k) p.data.toList = b) :
    Calls Tryd.prog 85 #[.pointer (some ⟨g, 0, none⟩), .string p] w fun e w' =>
      e = .returned (.bool b) ∧ RWent g s (if b then k + p.size else k) bl bd w w' := by
  have H0 := Lib.hid (RWent.refl h)
  obtain ⟨⟨c0, c1, c2, c3⟩, f1, f3⟩ := h.cells
  have hz := h.lt
  have HB := Lib.hid hb
  clear h c2 c3 f3 hb
  have hw : IntKind.i64.wrap ((k : Int) + p.size) = (k : Int) + p.size := by rw [IntKind.wrap_i64]; omega
  by_cases hle : k + p.size ≤ s.size
  · have hq := prefix_cut hle
    rw [HB.out] at hq
    cases b
    · go_enter Tryd.func85, Tryd.ntmps85
      go_wp2_with fail
      have hd : decide ((k : Int) + p.size ≤ s.size) = true := by simp; omega
      go_quiet (fail)
      go_wp2_with fail
      go_ret
      exact ⟨rfl, H0.out.drewN _⟩
    · go_enter Tryd.func85, Tryd.ntmps85
      go_wp2_with fail
      have hd : decide ((k : Int) + p.size ≤ s.size) = true := by simp; omega
      go_quiet (fail)
      go_wp2_with fail
      go_ret
      exact ⟨rfl, (H0.out.drewN _).move (k + p.size)⟩
  · have hq := prefix_long hle hk
    rw [HB.out] at hq
    subst hq
    go_enter Tryd.func85, Tryd.ntmps85
    go_wp2_with fail
    have hd : decide ((k : Int) + p.size ≤ s.size) = false := by simp; omega
    go_quiet (fail)
    go_wp2_with fail
    go_ret
    exact ⟨rfl, H0.out.drewN _⟩

/-- What the reader of texts leaves. -/
def StrPost (g : Nat) (s : ByteArray) (bl bd : Bool) (w : World) : Option (List UInt8 × List UInt8) → Ending → World → Prop
  | none, e, w' => e = .returned (.string ⟨#[]⟩) ∧ ∃ k, k ≤ s.size ∧ RWent g s k bl true w w'
  | some (t, l), e, w' => e = .returned (.string ⟨t.toArray⟩) ∧ ∃ k, k ≤ s.size ∧ sfx s k = l ∧ RWent g s k bl bd w w'
/-- Where the reading of a text stands. -/
def SrAt (g : Nat) (s : ByteArray) (bl bd : Bool) (R : Option (List UInt8 × List UInt8)) (w wr : World) (v : Value) (j : Nat) (acc : List UInt8) : Prop :=
  strR (sfx s j) acc = R ∧ RWent g s j bl bd w wr ∧ Own w.heap.size v acc wr
theorem sr_end {s : ByteArray} {j : Nat} {acc : List UInt8} (h : ¬ j < s.size) : strR (sfx s j) acc = none := by rw [sfx_nil h, strR]
theorem sr_quote {s : ByteArray} {j : Nat} {acc : List UInt8} (h : j < s.size) (hc : s[j].toNat = 34) : strR (sfx s j) acc = some (acc, sfx s (j + 1)) := by
  rw [sfx_cons h, strR_cons, if_pos (UInt8.toNat_inj.1 hc)]
theorem sr_plain {s : ByteArray} {j : Nat} {acc : List UInt8} (h : j < s.size) (h1 : ¬ s[j].toNat = 34) (h2 : ¬ s[j].toNat = 92) : strR (sfx s j) acc = strR (sfx s (j + 1)) (acc ++ [s[j]]) := by
  rw [sfx_cons h, strR_cons, if_neg (fun e => h1 (by rw [e]; rfl)), if_neg (fun e => h2 (by rw [e]; rfl))]
theorem sr_esc {s : ByteArray} {j : Nat} {acc : List UInt8} (h : j < s.size) (h2 : s[j].toNat = 92) (h' : j + 1 < s.size) (hx : s[j + 1].toNat = 34 ∨ s[j + 1].toNat = 92) : strR (sfx s j) acc = strR (sfx s (j + 1 + 1)) (acc ++ [s[j + 1]]) := by
  rw [sfx_cons h, sfx_cons h', UInt8.toNat_inj.1 (show s[j].toNat = (92 : UInt8).toNat from h2), strR_cons, if_neg (by decide), if_pos rfl]
  show (if _ then _ else _) = _
  rw [if_pos (hx.imp (fun e => UInt8.toNat_inj.1 e) (fun e => UInt8.toNat_inj.1 e))]
theorem sr_bad {s : ByteArray} {j : Nat} {acc : List UInt8} (h : j < s.size) (h2 : s[j].toNat = 92) (h' : j + 1 < s.size) (hx : ¬ (s[j + 1].toNat = 34 ∨ s[j + 1].toNat = 92)) : strR (sfx s j) acc = none := by
  rw [sfx_cons h, sfx_cons h', UInt8.toNat_inj.1 (show s[j].toNat = (92 : UInt8).toNat from h2), strR_cons, if_neg (by decide), if_pos rfl]
  show (if _ then _ else _) = _
  rw [if_neg (fun q => hx (q.imp (fun e => by rw [e]; rfl) (fun e => by rw [e]; rfl)))]
theorem sr_bad0 {s : ByteArray} {j : Nat} {acc : List UInt8} (h : j < s.size) (h2 : s[j].toNat = 92) (h' : ¬ j + 1 < s.size) : strR (sfx s j) acc = none := by
  rw [sfx_cons h, sfx_nil h', UInt8.toNat_inj.1 (show s[j].toNat = (92 : UInt8).toNat from h2), strR_cons, if_neg (by decide), if_pos rfl]
theorem RWent.own {g k : Nat} {s : ByteArray} {bl bd : Bool} {v : Value} {l : List UInt8} {w a b : World} (hw : RWent g s k bl bd w a) (h : Own w.heap.size v l a) (hg : g < w.heap.size) (hab : a.grownBy b v.ownBlock) : RWent g s k bl bd w b := by
  have hne : some g ≠ v.ownBlock := fun e => by have := (World.ownsRow.lt h g e.symm).1; omega
  refine ⟨⟨hab.os.trans hw.1.os, hab.tape.trans hw.1.tape, hab.output.trans hw.1.output, Nat.le_trans hw.1.size hab.size, fun i hi hne' => ?_⟩, BlockIs.grown hw.2 hab hne⟩
  refine (hab.block i (Nat.lt_of_lt_of_le hi hw.1.size) (fun e => ?_)).trans (hw.1.block i hi hne')
  have := (World.ownsRow.lt h i e.symm).1
  omega
theorem Own.rwent {g B k : Nat} {s : ByteArray} {bl bd : Bool} {v : Value} {l : List UInt8} {a b : World} (h : Own B v l a) (hw : RWent g s k bl bd a b) (hg : g < B) : Own B v l b := by
  refine World.ownsRow.kept h hw.1 ?_
  rcases hb : v.ownBlock with _ | q
  · exact .inl rfl
  · exact .inr (fun e => by rw [Option.some.injEq] at e; have := (World.ownsRow.lt h q hb).1; omega)
theorem RWent.alloc {g k : Nat} {s : ByteArray} {bl bd : Bool} {a b : World} (h : RWent g s k bl bd a b) (o : Obj) : RWent g s k bl bd a (b.alloc o) := ⟨grow_alloc h.1 o, BlockIs.alloc h.2 o⟩

set_option maxRecDepth 100000 in
set_option maxHeartbeats 4000000 in
theorem str_any (g : Nat) (s : ByteArray) (k : Nat) (bl bd : Bool) (w : World) (h : RAt w g s k bl bd) (hk : k ≤ s.size) (hs : s.size ≤ 1000000) :
    Calls Tryd.prog 88 #[.pointer (some ⟨g, 0, none⟩)] w (StrPost g s bl bd w (strR (sfx s k) [])) := by
  have hg := h.lt
  obtain ⟨i0, hi, hz0, hz1, hz2⟩ := info_parts (P := Tryd.prog) (e := 5) (z := .int .u8 0) (size := 1) (bytes := 1) (by kernel_rfl)
  obtain ⟨R, hR⟩ : ∃ R, R = strR (sfx s k) [] := ⟨_, rfl⟩
  rw [← hR]
  have HS := Lib.hid (show SrAt g s bl bd R w w (.slice none 0 0) k [] from ⟨hR.symm, RWent.refl h, Own.nil _ _⟩)
  clear h hR
  go_enter Tryd.func88, Tryd.ntmps88
  go_wp2_with fail
  go_loopw [3] (fun v wr => ∃ (A : Option Addr) (c j : Nat) (acc : List UInt8), v = .slice A acc.length c ∧ j ≤ s.size ∧ acc.length ≤ j ∧ Hid (SrAt g s bl bd R w wr v j acc)) (fun _ wr => s.size - posOf g wr)
  case atStart => exact ⟨none, 0, k, [], rfl, hk, Nat.zero_le _, HS⟩
  case round =>
    clear HS
    obtain ⟨A, c, j, acc, rfl, hj, hacc, HQ⟩ := hrel
    obtain ⟨hq1, hq2, hq3⟩ := HQ.out
    have HE := Lib.hid hq1
    have HX := Lib.hid hq2
    have HO := Lib.hid hq3
    have hmm := Lib.hid hq2.2.pos
    obtain ⟨⟨c0, c1, c2, c3⟩, f1, f3⟩ := hq2.2.cells
    have hzr := hq2.1.size
    have hgr := hq2.2.lt
    clear hq1 hq2 hq3 c2
    by_cases hlt : j < s.size
    · have hw1 : IntKind.i64.wrap ((j : Int) + 1) = (j : Int) + 1 := by rw [IntKind.wrap_i64]; omega
      by_cases h34 : s[j].toNat = 34
      · have e0 : ((s[j].toNat : Int) == 34) = true := by simp; omega
        have HR := Lib.hid (HE.out.symm.trans (sr_quote hlt h34))
        have HX1 := Lib.hid fun m => ((RWent.refl HX.out.2).drewN m).move (j + 1)
        have hcv : ∀ m, (convert 61 9 (.slice A acc.length c)).run Tryd.prog ((wr.drewN m).setCell ⟨g, 1, none⟩ (.int .i64 ((j : Int) + 1))) = .ok (.string ⟨acc.toArray⟩) ((wr.drewN m).setCell ⟨g, 1, none⟩ (.int .i64 ((j : Int) + 1))) := fun m => own_string (Own.rwent HO.out (HX1.out m) hg)
        clear h34
        go_wp2_with fail
        have hd : decide (j < s.size) = true := by simpa using hlt
        go_quiet (fail)
        go_wp2_with fail
        go_quiet (fail)
        go_wp2_with fail
        go_ret
        rw [HR.out]
        exact ⟨rfl, j + 1, hlt, rfl, (HX.out.drewN _).move (j + 1)⟩
      · have e0 : ((s[j].toNat : Int) == 34) = false := by simp; omega
        by_cases h92 : s[j].toNat = 92
        · have e1 : ((s[j].toNat : Int) == 92) = true := by simp; omega
          have HX1 := Lib.hid fun m => ((RWent.refl HX.out.2).drewN m).move (j + 1)
          by_cases hlt2 : j + 1 < s.size
          · have hd2 : decide ((s.size : Int) ≤ (j : Int) + 1) = false := by simp; omega
            have hw2 : IntKind.i64.wrap ((j : Int) + 1 + 1) = (j : Int) + 1 + 1 := by rw [IntKind.wrap_i64]; omega
            by_cases hx : s[j + 1].toNat = 34 ∨ s[j + 1].toNat = 92
            · have HR := Lib.hid ((sr_esc hlt h92 hlt2 hx).symm.trans HE.out)
              have HX2 := Lib.hid fun m m' => (((RWent.refl HX.out.2).drewN m).move (j + 1) |>.drewN m').move (j + 1 + 1)
              clear h34 h92
              obtain ⟨x, hxx⟩ : ∃ x, x = s[j + 1] := ⟨_, rfl⟩
              rw [← hxx] at HR hx
              have hsx := hxx.symm
              clear hxx
              have key : ((x.toNat : Int) != 34) = false ∨ ((x.toNat : Int) != 34) = true ∧ ((x.toNat : Int) != 92) = false := by
                rcases hx with hx | hx
                · left; simp; omega
                · right; constructor <;> (simp; omega)
              clear hx
              rcases key with e2 | ⟨e2, e3⟩
              all_goals
                go_wp2_with fail
                have hd : decide (j < s.size) = true := by simpa using hlt
                go_quiet (fail)
                go_wp2_with fail
                go_quiet (fail)
                go_wp2_with fail
                go_quiet (fail)
                go_wp2_with fail
                go_quiet (fail)
                go_wp2_with (at_builtin; refine wpList_append_own _ rfl _ _ 61 rfl w.heap.size 5 i0 (.int .u8 0) 1 1 Tryd.underlying61 hi hz0 hz1 hz2 rfl (by decide) _ _ _ rfl (World.ownsRow.alloc (Own.rwent HO.out (HX2.out _ _) hg) _) _ 1 1 [.int .u8 x.toNat] rfl rfl ?c1 ?c2 ?c3 ?c4 ?c5 ?_)
                case c1 =>
                  intro i u hj
                  match i, hj with
                  | 0, hj =>
                    simp at hj
                    subst hj
                    exact BlockIs.cell (BlockIs.newAt _ 5 #[.int .u8 x.toNat] (by simp [World.setCell])) 0
                case c2 => intro u hu; simp at hu; subst hu; rfl
                case c3 => unfold maxLen; omega
                case c4 => omega
                case c5 => simp [World.setCell]; omega
                intro v' w5 hown hgrow _
                have HO5 := Lib.hid (Own.push hown)
                have HX5 := Lib.hid (RWent.own (RWent.alloc ((((HX.out.drewN _).move (j + 1)).drewN _).move (j + 1 + 1)) _) (World.ownsRow.alloc (Own.rwent HO.out (HX2.out _ _) hg) _) hg hgrow)
                clear hown hgrow
                obtain ⟨A5, c5, rfl⟩ := HO5.out.form
                go_wp2_with fail
                go_roundw
                case rel => exact ⟨A5, c5, j + 1 + 1, acc ++ [x], rfl, by omega, by simp; omega, Lib.hid ⟨HR.out, HX5.out, HO5.out⟩⟩
                case measure => rw [hmm.out, HX5.out.2.pos]; omega
            · have HR := Lib.hid (HE.out.symm.trans (sr_bad hlt h92 hlt2 hx))
              obtain ⟨x, hxx⟩ : ∃ x, x = s[j + 1] := ⟨_, rfl⟩
              rw [← hxx] at hx
              have hsx := hxx.symm
              clear hxx
              have h34' : ¬ x.toNat = 34 := fun e => hx (.inl e)
              have h92' : ¬ x.toNat = 92 := fun e => hx (.inr e)
              have e2 : ((x.toNat : Int) != 34) = true := by simp; omega
              have e3 : ((x.toNat : Int) != 92) = true := by simp; omega
              clear h34 h92 hx h34' h92'
              go_wp2_with fail
              have hd : decide (j < s.size) = true := by simpa using hlt
              go_quiet (fail)
              go_wp2_with fail
              go_quiet (fail)
              go_wp2_with fail
              go_quiet (fail)
              go_wp2_with fail
              go_ret
              rw [HR.out]
              exact ⟨rfl, j + 1, hlt, (((HX.out.drewN _).move (j + 1)).drewN _).wrong⟩
          · have HR := Lib.hid (HE.out.symm.trans (sr_bad0 hlt h92 hlt2))
            have hd2 : decide ((s.size : Int) ≤ (j : Int) + 1) = true := by simp; omega
            clear h34 h92
            go_wp2_with fail
            have hd : decide (j < s.size) = true := by simpa using hlt
            go_quiet (fail)
            go_wp2_with fail
            go_quiet (fail)
            go_wp2_with fail
            go_quiet (fail)
            go_wp2_with fail
            go_ret
            rw [HR.out]
            exact ⟨rfl, j + 1, hlt, (((HX.out.drewN _).move (j + 1)).drewN _).wrong⟩
        · have e1 : ((s[j].toNat : Int) == 92) = false := by simp; omega
          have HR := Lib.hid ((sr_plain hlt h34 h92).symm.trans HE.out)
          have HX1 := Lib.hid fun m => ((RWent.refl HX.out.2).drewN m).move (j + 1)
          obtain ⟨x, hxx⟩ : ∃ x, x = s[j] := ⟨_, rfl⟩
          rw [← hxx] at HR e0 e1
          have hsx := hxx.symm
          clear h34 h92 hxx
          go_wp2_with fail
          have hd : decide (j < s.size) = true := by simpa using hlt
          go_quiet (fail)
          go_wp2_with fail
          go_quiet (fail)
          go_wp2_with (at_builtin; refine wpList_append_own _ rfl _ _ 61 rfl w.heap.size 5 i0 (.int .u8 0) 1 1 Tryd.underlying61 hi hz0 hz1 hz2 rfl (by decide) _ _ _ rfl (World.ownsRow.alloc (Own.rwent HO.out (HX1.out _) hg) _) _ 1 1 [.int .u8 x.toNat] rfl rfl ?c1 ?c2 ?c3 ?c4 ?c5 ?_)
          case c1 =>
            intro i u hj
            match i, hj with
            | 0, hj =>
              simp at hj
              subst hj
              exact BlockIs.cell (BlockIs.newAt _ 5 #[.int .u8 x.toNat] (by simp [World.setCell])) 0
          case c2 => intro u hu; simp at hu; subst hu; rfl
          case c3 => unfold maxLen; omega
          case c4 => omega
          case c5 => simp [World.setCell]; omega
          intro v' w5 hown hgrow _
          have HO5 := Lib.hid (Own.push hown)
          have HX5 := Lib.hid (RWent.own (RWent.alloc ((HX.out.drewN _).move (j + 1)) _) (World.ownsRow.alloc (Own.rwent HO.out (HX1.out _) hg) _) hg hgrow)
          clear hown hgrow
          obtain ⟨A5, c5, rfl⟩ := HO5.out.form
          go_wp2_with fail
          go_roundw
          case rel => exact ⟨A5, c5, j + 1, acc ++ [x], rfl, by omega, by simp; omega, Lib.hid ⟨HR.out, HX5.out, HO5.out⟩⟩
          case measure => rw [hmm.out, HX5.out.2.pos]; omega
    · have HR := Lib.hid (HE.out.symm.trans (sr_end hlt))
      go_wp2_with fail
      have hd : decide (j < s.size) = false := by simpa using hlt
      go_quiet (fail)
      go_wp2_with fail
      go_ret
      rw [HR.out]
      exact ⟨rfl, j, hj, (HX.out.drewN _).wrong⟩
end Go.Proofs.YtcbcfcokfjfffaaDoor
