/- The specification's reader: blanks, signs, words. -/
import Derived.Test.YtcbcfcokfjfffaaDoorRt
import Derived.Test.YtcbcfcokfjfffaaDoorPv
namespace Go.Proofs.YtcbcfcokfjfffaaDoor
open Go.RowKit

/-- Where the specification's reader stands: its string, its place, whether it passes blanks, whether something was wrong. -/
def RAt (w : World) (g : Nat) (s : ByteArray) (k : Nat) (bl bd : Bool) : Prop := BlockIs w g 73 #[.string s, .int .i64 k, .bool bl, .bool bd]
theorem RAt.lt {w : World} {g : Nat} {s : ByteArray} {k : Nat} {bl bd : Bool} (h : RAt w g s k bl bd) : g < w.heap.size := BlockIs.lt h
theorem RAt.cells {w : World} {g : Nat} {s : ByteArray} {k : Nat} {bl bd : Bool} (h : RAt w g s k bl bd) : (w.cell? ⟨g, 0, none⟩ = some (.string s) ∧ w.cell? ⟨g, 1, none⟩ = some (.int .i64 k) ∧ w.cell? ⟨g, 2, none⟩ = some (.bool bl) ∧ w.cell? ⟨g, 3, none⟩ = some (.bool bd)) ∧ w.frozen? ⟨g, 1, none⟩ = false ∧ w.frozen? ⟨g, 3, none⟩ = false := by
  have c0 := BlockIs.cell h 0
  have c1 := BlockIs.cell h 1
  have c2 := BlockIs.cell h 2
  have c3 := BlockIs.cell h 3
  exact ⟨⟨c0, c1, c2, c3⟩, BlockIs.frozen h 1, BlockIs.frozen h 3⟩
theorem RAt.pos {w : World} {g : Nat} {s : ByteArray} {k : Nat} {bl bd : Bool} (h : RAt w g s k bl bd) : posOf g w = k := by
  have := h.cells.1.2.1
  simp [posOf, this]
theorem RAt.move {w : World} {g : Nat} {s : ByteArray} {k : Nat} {bl bd : Bool} (h : RAt w g s k bl bd) (m : Nat) : RAt (w.setCell ⟨g, 1, none⟩ (.int .i64 m)) g s m bl bd := by
  have := BlockIs.set_ h 1 (.int .i64 m); simpa [RAt] using this
theorem RAt.wrong {w : World} {g : Nat} {s : ByteArray} {k : Nat} {bl bd : Bool} (h : RAt w g s k bl bd) : RAt (w.setCell ⟨g, 3, none⟩ (.bool true)) g s k bl true := by
  have := BlockIs.set_ h 3 (.bool true); simpa [RAt] using this
/-- A step of that reader. -/
def RWent (g : Nat) (s : ByteArray) (k : Nat) (bl bd : Bool) (w w' : World) : Prop := w.grownBy w' (some g) ∧ RAt w' g s k bl bd
section
variable {g : Nat} {s : ByteArray} {k k' : Nat} {bl bd bl' bd' : Bool} {a b c : World}
theorem RWent.refl (h : RAt a g s k bl bd) : RWent g s k bl bd a a := ⟨⟨rfl, rfl, rfl, Nat.le_refl _, fun _ _ _ => rfl⟩, h⟩
theorem RWent.trans (h : RWent g s k bl bd a b) (h' : RWent g s k' bl' bd' b c) : RWent g s k' bl' bd' a c := ⟨grow_trans h.1 h'.1, h'.2⟩
theorem RWent.drewN (h : RWent g s k bl bd a b) (m : Nat) : RWent g s k bl bd a (b.drewN m) := ⟨grow_drewN h.1 m, h.2⟩
theorem RWent.drew (h : RWent g s k bl bd a b) : RWent g s k bl bd a b.drew := ⟨grow_drew h.1, h.2⟩
theorem RWent.move (h : RWent g s k bl bd a b) (m : Nat) : RWent g s m bl bd a (b.setCell ⟨g, 1, none⟩ (.int .i64 m)) := ⟨grow_set h.1 _ _ rfl, h.2.move m⟩
theorem RWent.wrong (h : RWent g s k bl bd a b) : RWent g s k bl true a (b.setCell ⟨g, 3, none⟩ (.bool true)) := ⟨grow_set h.1 _ _ rfl, h.2.wrong⟩
theorem RWent.below (h : RWent g s k bl bd a b) (hb : Below b.heap.size b c) : RWent g s k bl bd a c := ⟨grow_below h.1 hb, BlockIs.below h.2 hb (BlockIs.lt h.2)⟩
end

set_option maxRecDepth 100000 in
set_option maxHeartbeats 4000000 in
theorem skip_any (g : Nat) (s : ByteArray) (k : Nat) (bl bd : Bool) (w : World) (h : RAt w g s k bl bd) (hk : k ≤ s.size) (hs : s.size ≤ 1000000) :
    Calls Tryd.prog 56 #[.pointer (some ⟨g, 0, none⟩)] w fun e w' => e = .returned (.tuple #[]) ∧ ∃ k' : Nat, k' ≤ s.size ∧ sfx s k' = skipB bl (sfx s k) ∧ RWent g s k' bl bd w w' := by
  cases bl
  · have H0 := Lib.hid (RWent.refl h)
    obtain ⟨⟨c0, c1, c2, c3⟩, f1, f3⟩ := h.cells
    have hz := h.lt
    clear h
    go_enter Tryd.func56, Tryd.ntmps56
    go_wp2_with fail
    go_loopw [] (fun wr => Hid (wr = w)) (fun _ => 0)
    case atStart => exact Lib.hid rfl
    case round =>
      obtain rfl := hrel.out
      go_wp2_with fail
      go_quiet (fail)
      go_wp2_with fail
      refine bodyPost_end (v := .tuple #[]) (by simp [results, Tryd.results56, go_sem]) rfl ⟨rfl, k, hk, rfl, H0.out.drewN _⟩
  · have hR := Lib.hid (show ∃ k' : Nat, k' ≤ s.size ∧ skipP (sfx s k') = skipP (sfx s k) ∧ RWent g s k' true bd w w from ⟨k, hk, rfl, RWent.refl h⟩)
    clear h hk
    go_enter Tryd.func56, Tryd.ntmps56
    go_wp2_with fail
    go_loopw [] (fun wr => Hid (∃ k' : Nat, k' ≤ s.size ∧ skipP (sfx s k') = skipP (sfx s k) ∧ RWent g s k' true bd w wr)) (fun wr => s.size - posOf g wr)
    case atStart => exact hR
    case round =>
      obtain ⟨j, hj, hsk, hA⟩ := hrel.out
      have HS := Lib.hid hsk
      have HA := Lib.hid hA
      obtain ⟨⟨c0, c1, c2, c3⟩, f1, f3⟩ := hA.2.cells
      have hz := hA.2.lt
      have hm := Lib.hid hA.2.pos
      clear hA hsk c3 f3
      by_cases hlt : j < s.size
      · by_cases hc : s[j].toNat = 32
        · have HK := Lib.hid (sk_blank hlt hc)
          go_wp2_with fail
          have hd : decide (j < s.size) = true := by simpa using hlt
          go_quiet (fail)
          go_wp2_with fail
          have HX := Lib.hid ((HA.out.drewN nq).move (j + 1))
          go_roundw
          case rel => exact Lib.hid ⟨j + 1, by omega, HK.out.symm.trans HS.out, HX.out⟩
          case measure =>
            rw [hm.out]
            have hx : posOf g ((wr.drewN nq).setCell ⟨g, 1, none⟩ (.int .i64 (j + 1))) = j + 1 := HX.out.2.pos
            rw [hx]; omega
        · have e0 : ((s[j].toNat : Int) == 32) = false := by simp; omega
          have HK := Lib.hid (sk_other hlt hc)
          clear hc
          go_wp2_with fail
          have hd : decide (j < s.size) = true := by simpa using hlt
          go_quiet (fail)
          go_wp2_with fail
          refine bodyPost_end (v := .tuple #[]) (by simp [results, Tryd.results56, go_sem]) rfl ⟨rfl, j, hj, HK.out.symm.trans HS.out, HA.out.drewN _⟩
      · have HK := Lib.hid (sk_end hlt)
        go_wp2_with fail
        have hd : decide (j < s.size) = false := by simpa using hlt
        go_quiet (fail)
        go_wp2_with fail
        refine bodyPost_end (v := .tuple #[]) (by simp [results, Tryd.results56, go_sem]) rfl ⟨rfl, j, hj, HK.out.symm.trans HS.out, HA.out.drewN _⟩

set_option maxRecDepth 100000 in
set_option maxHeartbeats 4000000 in
theorem next_sign (g : Nat) (s : ByteArray) (k : Nat) (bl bd : Bool) (c : UInt8) (q : Int) (hc : q = c.toNat) (w : World) (h : RAt w g s k bl bd) (hk : k ≤ s.size) (hs : s.size ≤ 1000000) :
    Calls Tryd.prog 112 #[.pointer (some ⟨g, 0, none⟩), .int .u8 q] w fun e w' => e = .returned (.bool (takesP c (skipB bl (sfx s k)))) ∧ ∃ k' : Nat, k' ≤ s.size ∧ sfx s k' = tailP c (skipB bl (sfx s k)) ∧ RWent g s k' bl bd w w' := by
  have HB := Lib.hid fun W (hW : RAt W g s k bl bd) => skip_any g s k bl bd W hW hk hs
  have H0 := Lib.hid h
  clear h hk
  go_enter Tryd.func112, Tryd.ntmps112
  go_wp2_with fail
  refine (HB.out _ H0.out).mono ?_
  rintro e w1 ⟨rfl, j, hj, hsk, hA⟩
  have HS := Lib.hid hsk
  have HA := Lib.hid hA
  obtain ⟨⟨c0, c1, c2, c3⟩, f1, f3⟩ := hA.2.cells
  have hz := hA.2.lt
  clear hA hsk c2 c3 f3
  by_cases hlt : j < s.size
  · by_cases he : s[j] = c
    · have HK := Lib.hid (show takesP c (sfx s j) = true ∧ tailP c (sfx s j) = sfx s (j + 1) by rw [sfx_cons hlt]; simp [takesP, tailP, he])
      have e0 : ((s[j].toNat : Int) == q) = true := by rw [hc, he]; simp
      clear he hc
      go_wp2_with fail
      have hd : decide (j < s.size) = true := by simpa using hlt
      go_quiet (fail)
      go_wp2_with fail
      go_ret
      exact ⟨by rw [← HS.out, HK.out.1]; rfl, j + 1, by omega, by rw [← HS.out, HK.out.2], (HA.out.drewN _).move (j + 1)⟩
    · have HK := Lib.hid (show takesP c (sfx s j) = false ∧ tailP c (sfx s j) = sfx s j by rw [sfx_cons hlt]; simp [takesP, tailP, he])
      have e0 : ((s[j].toNat : Int) == q) = false := by rw [hc]; simp; exact fun e => he (UInt8.toNat_inj.1 (by omega))
      clear he hc
      go_wp2_with fail
      have hd : decide (j < s.size) = true := by simpa using hlt
      go_quiet (fail)
      go_wp2_with fail
      go_ret
      exact ⟨by rw [← HS.out, HK.out.1]; rfl, j, hj, by rw [← HS.out, HK.out.2], HA.out.drewN _⟩
  · have HK := Lib.hid (show takesP c (sfx s j) = false ∧ tailP c (sfx s j) = sfx s j by rw [sfx_nil hlt]; simp [takesP, tailP])
    clear hc
    go_wp2_with fail
    have hd : decide (j < s.size) = false := by simpa using hlt
    go_quiet (fail)
    go_wp2_with fail
    go_ret
    exact ⟨by rw [← HS.out, HK.out.1]; rfl, j, hj, by rw [← HS.out, HK.out.2], HA.out.drewN _⟩
end Go.Proofs.YtcbcfcokfjfffaaDoor
