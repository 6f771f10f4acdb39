/- What the specification reads: bytes, numbers, texts, walked. -/
import Derived.Test.YthlmnhelmhnpfaaGreatDoorWl
import Derived.Test.YthlmnhelmhnpfaaGreatDoorWf
import Derived.Test.YthlmnhelmhnpfaaGreatDoorXc
import Derived.Deep.RegionWith
import Derived.Test.YthlmnhelmhnpfaaGreatDoorPv
namespace Go.Proofs.YthlmnhelmhnpfaaGreatDoor
open Go.RowKit
theorem itoa_small {n : Int} (h0 : 0 ≤ n) (h : n < 10) : Lib.itoa n = [UInt8.ofNat (48 + n.toNat)] := by
  rw [Lib.itoa, if_neg (by omega), Lib.decDigits, dif_pos (by omega)]
theorem itoa_big {n : Int} (h : ¬ n < 10) : Lib.itoa n = Lib.itoa (n / 10) ++ [UInt8.ofNat (48 + (n % 10).toNat)] := by
  have e1 : (n / 10).toNat = n.toNat / 10 := by omega
  have e2 : (n % 10).toNat = n.toNat % 10 := by omega
  rw [Lib.itoa, if_neg (by omega), Lib.decDigits, dif_neg (by omega), e2, Lib.itoa, if_neg (by omega), e1]
theorem itoa_less {n : Int} (h0 : n < 0) (h : -10 < n) : Lib.itoa n = 45 :: [UInt8.ofNat (48 + n.natAbs)] := by
  rw [Lib.itoa, if_pos h0, Lib.decDigits, dif_pos (by omega)]
theorem itoa_least {n : Int} (h0 : n < 0) (h : ¬ -10 < n) : Lib.itoa n = Lib.itoa (n.tdiv 10) ++ [UInt8.ofNat (48 + (n.tmod 10).natAbs)] ∧ (n.tdiv 10).natAbs < n.natAbs ∧ n ≤ n.tdiv 10 ∧ n.tdiv 10 ≤ 0 ∧ -10 < n.tmod 10 ∧ n.tmod 10 ≤ 0 := by
  obtain ⟨u, rfl⟩ : ∃ u : Nat, n = -(u : Int) := ⟨n.natAbs, by omega⟩
  have e1 : (-(u : Int)).tdiv 10 = -((u / 10 : Nat) : Int) := by rw [Int.neg_tdiv]; rfl
  have e2 : (-(u : Int)).tmod 10 = -((u % 10 : Nat) : Int) := by rw [Int.neg_tmod]; rfl
  rw [e1, e2]
  refine ⟨?_, by omega, by omega, by omega, by omega, by omega⟩
  rw [Lib.itoa, if_pos h0, Lib.decDigits, dif_neg (by omega), Lib.itoa, if_pos (by omega), show (-(u : Int)).natAbs = u by omega, show (-((u / 10 : Nat) : Int)).natAbs = u / 10 by omega, show (-((u % 10 : Nat) : Int)).natAbs = u % 10 by omega]
  rfl
theorem byte_wrap {m : Nat} (_h : m < 10) {q : Int} (hq : q = 48 + m) : IntKind.u8.wrap q = ((UInt8.ofNat (48 + m)).toNat : Int) := by
  rw [IntKind.wrap_u8, UInt8.toNat_ofNat', hq]; omega
theorem digit_more {a b : List UInt8} {c : UInt8} (h : b = a ++ [c]) : Ending.returned (.string (⟨a.toArray⟩ ++ ⟨#[c]⟩)) = Ending.returned (.string ⟨b.toArray⟩) := by
  rw [h, ByteArray.mk_append_mk]
theorem one_string (W : World) (g : Nat) (t : TypeId) (c : UInt8) (h : BlockIs W g t #[.int .u8 c.toNat]) : (convert 112 9 (.slice (some ⟨g, 0, none⟩) 1 1)).run Tryz.prog W = .ok (.string ⟨#[c]⟩) W := by
  refine run_convert_bytes_back W _ _ 5 ⟨g, 0, none⟩ 1 [c] Tryz.underlying112 Tryz.underlying5 Tryz.underlying9 ?_
  intro j hj
  match j, hj with
  | 0, _ => exact BlockIs.cell h 0
set_option maxRecDepth 100000 in
set_option maxHeartbeats 4000000 in
theorem digits_any (N : Nat) : ∀ (n : Int) (w : World), n.natAbs < N → -1000000000000 ≤ n → n ≤ 1000000000000 →
    Calls Tryz.prog 61 #[.int .i64 n] w fun e w' => e = .returned (.string ⟨(Lib.itoa n).toArray⟩) ∧ Below w.heap.size w w' := by
  induction N with
  | zero => intro n w hN; omega
  | succ N ih =>
    intro n w hN h1 h2
    have IH := Lib.hid ih
    clear ih
    by_cases h0 : n < 0
    · by_cases h10 : -10 < n
      · have HI := Lib.hid (itoa_less h0 h10)
        obtain ⟨c, hc⟩ : ∃ c, c = UInt8.ofNat (48 + n.natAbs) := ⟨_, rfl⟩
        rw [← hc] at HI
        have hb : IntKind.u8.wrap (48 - n) = (c.toNat : Int) := by rw [hc]; exact byte_wrap (by omega) (by omega)
        have hcv := one_string (w.alloc (.cells #[.int .u8 c.toNat] 5)) w.heap.size 5 c (BlockIs.new w _ _)
        clear hc
        go_enter Tryz.func61, Tryz.ntmps61
        go_wp2_with fail
        go_ret
        refine ⟨?_, (Below.refl _ _).alloc (Nat.le_refl _) _⟩
        rw [HI.out]
        rfl
      · obtain ⟨hi, g1, g2, g3, g4, g5⟩ := itoa_least h0 h10
        have HI := Lib.hid hi
        obtain ⟨c, hc⟩ : ∃ c, c = UInt8.ofNat (48 + (n.tmod 10).natAbs) := ⟨_, rfl⟩
        rw [← hc] at HI
        have hb : IntKind.u8.wrap (48 - n.tmod 10) = (c.toNat : Int) := by rw [hc]; exact byte_wrap (by omega) (by omega)
        have hw1 : IntKind.i64.wrap (n.tdiv 10) = n.tdiv 10 := by rw [IntKind.wrap_i64]; omega
        have hw2 : IntKind.i64.wrap (48 - n.tmod 10) = 48 - n.tmod 10 := by rw [IntKind.wrap_i64]; omega
        have hw1 : IntKind.i64.wrap (n.tdiv 10) = n.tdiv 10 := by rw [IntKind.wrap_i64]; omega
        have hw2 : IntKind.i64.wrap (48 - n.tmod 10) = 48 - n.tmod 10 := by rw [IntKind.wrap_i64]; omega
        have hA : ∀ W : World, (convert 112 9 (.slice (some ⟨W.heap.size, 0, none⟩) 1 1)).run Tryz.prog (W.alloc (.cells #[.int .u8 c.toNat] 5)) = .ok (.string ⟨#[c]⟩) (W.alloc (.cells #[.int .u8 c.toNat] 5)) := fun W => one_string _ _ 5 c (BlockIs.new W _ _)
        have hB : (convert 112 9 (.slice (some ⟨w.heap.size, 0, none⟩) 1 1)).run Tryz.prog (w.alloc (.cells #[.int .u8 c.toNat] 5)).drew = .ok (.string ⟨#[c]⟩) (w.alloc (.cells #[.int .u8 c.toNat] 5)).drew := one_string _ _ 5 c (BlockIs.new w _ _)
        have hl := Lib.itoa_length_le (n.tdiv 10) (by omega) (by omega)
        clear hc hi
        go_enter Tryz.func61, Tryz.ntmps61
        go_wp2_with fail
        go_region_with (go_at_call 61; refine (IH.out _ _ ?_ ?_ ?_).mono ?_; omega; omega; omega; rintro e w1 ⟨rfl, h1⟩; try have hC := one_string w1 w.heap.size 5 c (BlockIs.below (w := (w.alloc (.cells #[.int .u8 c.toNat] 5)).drew) (BlockIs.new w 5 #[.int .u8 c.toNat]) h1 (by simp)))
        all_goals
          go_wp2_with fail
          go_ret
          refine ⟨digit_more HI.out, ?_⟩
          first
            | exact below_al (below_on (Below.refl _ w).drew h1) _
            | exact below_on (below_al (Below.refl _ w) _).drew h1
    · by_cases h10 : n < 10
      · have HI := Lib.hid (itoa_small (by omega) h10)
        obtain ⟨c, hc⟩ : ∃ c, c = UInt8.ofNat (48 + n.toNat) := ⟨_, rfl⟩
        rw [← hc] at HI
        have hb : IntKind.u8.wrap (48 + n) = (c.toNat : Int) := by rw [hc]; exact byte_wrap (by omega) (by omega)
        have hcv := one_string (w.alloc (.cells #[.int .u8 c.toNat] 5)) w.heap.size 5 c (BlockIs.new w _ _)
        clear hc
        go_enter Tryz.func61, Tryz.ntmps61
        go_wp2_with fail
        go_ret
        refine ⟨?_, (Below.refl _ _).alloc (Nat.le_refl _) _⟩
        rw [HI.out]
        rfl
      · have HI := Lib.hid (itoa_big h10)
        obtain ⟨c, hc⟩ : ∃ c, c = UInt8.ofNat (48 + (n % 10).toNat) := ⟨_, rfl⟩
        rw [← hc] at HI
        have hb : IntKind.u8.wrap (48 + n % 10) = (c.toNat : Int) := by rw [hc]; exact byte_wrap (by omega) (by omega)
        have hw1 : IntKind.i64.wrap (n / 10) = n / 10 := by rw [IntKind.wrap_i64]; omega
        have hw2 : IntKind.i64.wrap (48 + n % 10) = 48 + n % 10 := by rw [IntKind.wrap_i64]; omega
        have hd1 : n.tdiv 10 = n / 10 := Int.tdiv_eq_ediv_of_nonneg (by omega)
        have hd2 : n.tmod 10 = n % 10 := Int.tmod_eq_emod_of_nonneg (by omega)
        have k1 : (n / 10).natAbs < N := by omega
        have k2 : -1000000000000 ≤ n / 10 := by omega
        have k3 : n / 10 ≤ 1000000000000 := by omega
        have hA : ∀ W : World, (convert 112 9 (.slice (some ⟨W.heap.size, 0, none⟩) 1 1)).run Tryz.prog (W.alloc (.cells #[.int .u8 c.toNat] 5)) = .ok (.string ⟨#[c]⟩) (W.alloc (.cells #[.int .u8 c.toNat] 5)) := fun W => one_string _ _ 5 c (BlockIs.new W _ _)
        have hB : (convert 112 9 (.slice (some ⟨w.heap.size, 0, none⟩) 1 1)).run Tryz.prog (w.alloc (.cells #[.int .u8 c.toNat] 5)).drew = .ok (.string ⟨#[c]⟩) (w.alloc (.cells #[.int .u8 c.toNat] 5)).drew := one_string _ _ 5 c (BlockIs.new w _ _)
        have hl := Lib.itoa_length_le (n / 10) (by omega) (by omega)
        clear hc
        go_enter Tryz.func61, Tryz.ntmps61
        go_wp2_with fail
        go_region_with (go_at_call 61; refine (IH.out _ _ ?_ ?_ ?_).mono ?_; exact k1; exact k2; exact k3; rintro e w1 ⟨rfl, h1⟩; try have hC := one_string w1 w.heap.size 5 c (BlockIs.below (w := (w.alloc (.cells #[.int .u8 c.toNat] 5)).drew) (BlockIs.new w 5 #[.int .u8 c.toNat]) h1 (by simp)))
        all_goals
          go_wp2_with fail
          go_ret
          refine ⟨digit_more HI.out, ?_⟩
          first
            | exact below_al (below_on (Below.refl _ w).drew h1) _
            | exact below_on (below_al (Below.refl _ w) _).drew h1
open Go.RowKit
def RAt (w : World) (g : Nat) (s : ByteArray) (k : Nat) (bl bd : Bool) : Prop := BlockIs w g 120 #[.string s, .int .i64 k, .bool bl, .bool bd]
theorem RAt.lt {w : World} {g : Nat} {s : ByteArray} {k : Nat} {bl bd : Bool} (h : RAt w g s k bl bd) : g < w.heap.size := BlockIs.lt h
theorem RAt.cells {w : World} {g : Nat} {s : ByteArray} {k : Nat} {bl bd : Bool} (h : RAt w g s k bl bd) : (w.cell? ⟨g, 0, none⟩ = some (.string s) ∧ w.cell? ⟨g, 1, none⟩ = some (.int .i64 k) ∧ w.cell? ⟨g, 2, none⟩ = some (.bool bl) ∧ w.cell? ⟨g, 3, none⟩ = some (.bool bd)) ∧ w.frozen? ⟨g, 1, none⟩ = false ∧ w.frozen? ⟨g, 3, none⟩ = false := by
  have c0 := BlockIs.cell h 0
  have c1 := BlockIs.cell h 1
  have c2 := BlockIs.cell h 2
  have c3 := BlockIs.cell h 3
  exact ⟨⟨c0, c1, c2, c3⟩, BlockIs.frozen h 1, BlockIs.frozen h 3⟩
theorem RAt.pos {w : World} {g : Nat} {s : ByteArray} {k : Nat} {bl bd : Bool} (h : RAt w g s k bl bd) : posOf g w = k := by
  have := h.cells.1.2.1
  simp [posOf, this]
theorem RAt.move {w : World} {g : Nat} {s : ByteArray} {k : Nat} {bl bd : Bool} (h : RAt w g s k bl bd) (m : Nat) : RAt (w.setCell ⟨g, 1, none⟩ (.int .i64 m)) g s m bl bd := by
  have := BlockIs.set_ h 1 (.int .i64 m); simpa [RAt] using this
theorem RAt.wrong {w : World} {g : Nat} {s : ByteArray} {k : Nat} {bl bd : Bool} (h : RAt w g s k bl bd) : RAt (w.setCell ⟨g, 3, none⟩ (.bool true)) g s k bl true := by
  have := BlockIs.set_ h 3 (.bool true); simpa [RAt] using this
def RWent (g : Nat) (s : ByteArray) (k : Nat) (bl bd : Bool) (w w' : World) : Prop := w.grownBy w' (some g) ∧ RAt w' g s k bl bd
section
variable {g : Nat} {s : ByteArray} {k k' : Nat} {bl bd bl' bd' : Bool} {a b c : World}
theorem RWent.refl (h : RAt a g s k bl bd) : RWent g s k bl bd a a := ⟨⟨rfl, rfl, rfl, Nat.le_refl _, fun _ _ _ => rfl⟩, h⟩
theorem RWent.trans (h : RWent g s k bl bd a b) (h' : RWent g s k' bl' bd' b c) : RWent g s k' bl' bd' a c := ⟨grow_trans h.1 h'.1, h'.2⟩
theorem RWent.drewN (h : RWent g s k bl bd a b) (m : Nat) : RWent g s k bl bd a (b.drewN m) := ⟨grow_drewN h.1 m, h.2⟩
theorem RWent.drew (h : RWent g s k bl bd a b) : RWent g s k bl bd a b.drew := ⟨grow_drew h.1, h.2⟩
theorem RWent.move (h : RWent g s k bl bd a b) (m : Nat) : RWent g s m bl bd a (b.setCell ⟨g, 1, none⟩ (.int .i64 m)) := ⟨grow_set h.1 _ _ rfl, h.2.move m⟩
theorem RWent.wrong (h : RWent g s k bl bd a b) : RWent g s k bl true a (b.setCell ⟨g, 3, none⟩ (.bool true)) := ⟨grow_set h.1 _ _ rfl, h.2.wrong⟩
theorem RWent.below (h : RWent g s k bl bd a b) (hb : Below b.heap.size b c) : RWent g s k bl bd a c := ⟨grow_below h.1 hb, BlockIs.below h.2 hb (BlockIs.lt h.2)⟩
end
set_option maxRecDepth 100000 in
set_option maxHeartbeats 4000000 in
theorem skip_any (g : Nat) (s : ByteArray) (k : Nat) (bl bd : Bool) (w : World) (h : RAt w g s k bl bd) (hk : k ≤ s.size) (hs : s.size ≤ 1000000) :
    Calls Tryz.prog 122 #[.pointer (some ⟨g, 0, none⟩)] w fun e w' => e = .returned (.tuple #[]) ∧ ∃ k' : Nat, k' ≤ s.size ∧ sfx s k' = skipB bl (sfx s k) ∧ RWent g s k' bl bd w w' := by
  cases bl
  · have H0 := Lib.hid (RWent.refl h)
    obtain ⟨⟨c0, c1, c2, c3⟩, f1, f3⟩ := h.cells
    have hz := h.lt
    clear h
    go_enter Tryz.func122, Tryz.ntmps122
    go_wp2_with fail
    go_loopw [] (fun wr => Hid (wr = w)) (fun _ => 0)
    case atStart => exact Lib.hid rfl
    case round =>
      obtain rfl := hrel.out
      go_wp2_with fail
      go_quiet (fail)
      go_wp2_with fail
      refine bodyPost_end (v := .tuple #[]) (by simp [results, Tryz.results122, go_sem]) rfl ⟨rfl, k, hk, rfl, H0.out.drewN _⟩
  · have hR := Lib.hid (show ∃ k' : Nat, k' ≤ s.size ∧ skipP (sfx s k') = skipP (sfx s k) ∧ RWent g s k' true bd w w from ⟨k, hk, rfl, RWent.refl h⟩)
    clear h hk
    go_enter Tryz.func122, Tryz.ntmps122
    go_wp2_with fail
    go_loopw [] (fun wr => Hid (∃ k' : Nat, k' ≤ s.size ∧ skipP (sfx s k') = skipP (sfx s k) ∧ RWent g s k' true bd w wr)) (fun wr => s.size - posOf g wr)
    case atStart => exact hR
    case round =>
      obtain ⟨j, hj, hsk, hA⟩ := hrel.out
      have HS := Lib.hid hsk
      have HA := Lib.hid hA
      obtain ⟨⟨c0, c1, c2, c3⟩, f1, f3⟩ := hA.2.cells
      have hz := hA.2.lt
      have hm := Lib.hid hA.2.pos
      clear hA hsk c3 f3
      by_cases hlt : j < s.size
      · by_cases hc : s[j].toNat = 32
        · have HK := Lib.hid (sk_blank hlt hc)
          go_wp2_with fail
          have hd : decide (j < s.size) = true := by simpa using hlt
          go_quiet (fail)
          go_wp2_with fail
          have HX := Lib.hid ((HA.out.drewN nq).move (j + 1))
          go_roundw
          case rel => exact Lib.hid ⟨j + 1, by omega, HK.out.symm.trans HS.out, HX.out⟩
          case measure =>
            rw [hm.out]
            have hx : posOf g ((wr.drewN nq).setCell ⟨g, 1, none⟩ (.int .i64 (j + 1))) = j + 1 := HX.out.2.pos
            rw [hx]; omega
        · have e0 : ((s[j].toNat : Int) == 32) = false := by simp; omega
          have HK := Lib.hid (sk_other hlt hc)
          clear hc
          go_wp2_with fail
          have hd : decide (j < s.size) = true := by simpa using hlt
          go_quiet (fail)
          go_wp2_with fail
          refine bodyPost_end (v := .tuple #[]) (by simp [results, Tryz.results122, go_sem]) rfl ⟨rfl, j, hj, HK.out.symm.trans HS.out, HA.out.drewN _⟩
      · have HK := Lib.hid (sk_end hlt)
        go_wp2_with fail
        have hd : decide (j < s.size) = false := by simpa using hlt
        go_quiet (fail)
        go_wp2_with fail
        refine bodyPost_end (v := .tuple #[]) (by simp [results, Tryz.results122, go_sem]) rfl ⟨rfl, j, hj, HK.out.symm.trans HS.out, HA.out.drewN _⟩
set_option maxRecDepth 100000 in
set_option maxHeartbeats 4000000 in
theorem next_sign (g : Nat) (s : ByteArray) (k : Nat) (bl bd : Bool) (c : UInt8) (q : Int) (hc : q = c.toNat) (w : World) (h : RAt w g s k bl bd) (hk : k ≤ s.size) (hs : s.size ≤ 1000000) :
    Calls Tryz.prog 149 #[.pointer (some ⟨g, 0, none⟩), .int .u8 q] w fun e w' => e = .returned (.bool (takesP c (skipB bl (sfx s k)))) ∧ ∃ k' : Nat, k' ≤ s.size ∧ sfx s k' = tailP c (skipB bl (sfx s k)) ∧ RWent g s k' bl bd w w' := by
  have HB := Lib.hid fun W (hW : RAt W g s k bl bd) => skip_any g s k bl bd W hW hk hs
  have H0 := Lib.hid h
  clear h hk
  go_enter Tryz.func149, Tryz.ntmps149
  go_wp2_with fail
  refine (HB.out _ H0.out).mono ?_
  rintro e w1 ⟨rfl, j, hj, hsk, hA⟩
  have HS := Lib.hid hsk
  have HA := Lib.hid hA
  obtain ⟨⟨c0, c1, c2, c3⟩, f1, f3⟩ := hA.2.cells
  have hz := hA.2.lt
  clear hA hsk c2 c3 f3
  by_cases hlt : j < s.size
  · by_cases he : s[j] = c
    · have HK := Lib.hid (show takesP c (sfx s j) = true ∧ tailP c (sfx s j) = sfx s (j + 1) by rw [sfx_cons hlt]; simp [takesP, tailP, he])
      have e0 : ((s[j].toNat : Int) == q) = true := by rw [hc, he]; simp
      clear he hc
      go_wp2_with fail
      have hd : decide (j < s.size) = true := by simpa using hlt
      go_quiet (fail)
      go_wp2_with fail
      go_ret
      exact ⟨by rw [← HS.out, HK.out.1]; rfl, j + 1, by omega, by rw [← HS.out, HK.out.2], (HA.out.drewN _).move (j + 1)⟩
    · have HK := Lib.hid (show takesP c (sfx s j) = false ∧ tailP c (sfx s j) = sfx s j by rw [sfx_cons hlt]; simp [takesP, tailP, he])
      have e0 : ((s[j].toNat : Int) == q) = false := by rw [hc]; simp; exact fun e => he (UInt8.toNat_inj.1 (by omega))
      clear he hc
      go_wp2_with fail
      have hd : decide (j < s.size) = true := by simpa using hlt
      go_quiet (fail)
      go_wp2_with fail
      go_ret
      exact ⟨by rw [← HS.out, HK.out.1]; rfl, j, hj, by rw [← HS.out, HK.out.2], HA.out.drewN _⟩
  · have HK := Lib.hid (show takesP c (sfx s j) = false ∧ tailP c (sfx s j) = sfx s j by rw [sfx_nil hlt]; simp [takesP, tailP])
    clear hc
    go_wp2_with fail
    have hd : decide (j < s.size) = false := by simpa using hlt
    go_quiet (fail)
    go_wp2_with fail
    go_ret
    exact ⟨by rw [← HS.out, HK.out.1]; rfl, j, hj, by rw [← HS.out, HK.out.2], HA.out.drewN _⟩
open Go.RowKit
theorem prefix_cut {s p : ByteArray} {k : Nat} (_hle : k + p.size ≤ s.size) : ((s.extract k (k + p.size)).toList == p.toList) = Lib.hasPrefix (sfx s k) p.data.toList := by
  have h1 : (s.extract k (k + p.size)).toList = (sfx s k).take p.size := by
    rw [ByteArray.toList_eq]
    unfold sfx
    simp
  have hl : p.data.toList.length = p.size := by simp
  rw [h1, ByteArray.toList_eq, Bool.eq_iff_iff, beq_iff_eq]
  constructor
  · intro e
    have : sfx s k = p.data.toList ++ (sfx s k).drop p.size := by rw [← e, List.take_append_drop]
    rw [this]
    simp [Lib.hasPrefix]
  · intro e
    have := prefix_is e
    rw [this, ← hl, List.take_left]
theorem prefix_long {s p : ByteArray} {k : Nat} (hle : ¬ k + p.size ≤ s.size) (hk : k ≤ s.size) : Lib.hasPrefix (sfx s k) p.data.toList = false := by
  cases h : Lib.hasPrefix (sfx s k) p.data.toList with
  | false => rfl
  | true =>
    have h1 := congrArg List.length (prefix_is h)
    rw [List.length_append, sfx_length] at h1
    simp at h1
    omega
set_option maxRecDepth 100000 in
set_option maxHeartbeats 4000000 in
theorem word_takes (g : Nat) (s p : ByteArray) (k : Nat) (bl bd b : Bool) (w : World) (h : RAt w g s k bl bd) (hk : k ≤ s.size) (hs : s.size ≤ 1000000) (hp : p.size ≤ 1000) (hb : Lib.hasPrefix (sfx s k) p.data.toList = b) :
    Calls Tryz.prog 123 #[.pointer (some ⟨g, 0, none⟩), .string p] w fun e w' =>
      e = .returned (.bool b) ∧ RWent g s (if b then k + p.size else k) bl bd w w' := by
  have H0 := Lib.hid (RWent.refl h)
  obtain ⟨⟨c0, c1, c2, c3⟩, f1, f3⟩ := h.cells
  have hz := h.lt
  have HB := Lib.hid hb
  clear h c2 c3 f3 hb
  have hw : IntKind.i64.wrap ((k : Int) + p.size) = (k : Int) + p.size := by rw [IntKind.wrap_i64]; omega
  by_cases hle : k + p.size ≤ s.size
  · have hq := prefix_cut hle
    rw [HB.out] at hq
    cases b
    · go_enter Tryz.func123, Tryz.ntmps123
      go_wp2_with fail
      have hd : decide ((k : Int) + p.size ≤ s.size) = true := by simp; omega
      go_quiet (fail)
      go_wp2_with fail
      go_ret
      exact ⟨rfl, H0.out.drewN _⟩
    · go_enter Tryz.func123, Tryz.ntmps123
      go_wp2_with fail
      have hd : decide ((k : Int) + p.size ≤ s.size) = true := by simp; omega
      go_quiet (fail)
      go_wp2_with fail
      go_ret
      exact ⟨rfl, (H0.out.drewN _).move (k + p.size)⟩
  · have hq := prefix_long hle hk
    rw [HB.out] at hq
    subst hq
    go_enter Tryz.func123, Tryz.ntmps123
    go_wp2_with fail
    have hd : decide ((k : Int) + p.size ≤ s.size) = false := by simp; omega
    go_quiet (fail)
    go_wp2_with fail
    go_ret
    exact ⟨rfl, H0.out.drewN _⟩
def StrPost (g : Nat) (s : ByteArray) (bl bd : Bool) (w : World) : Option (List UInt8 × List UInt8) → Ending → World → Prop
  | none, e, w' => e = .returned (.string ⟨#[]⟩) ∧ ∃ k, k ≤ s.size ∧ RWent g s k bl true w w'
  | some (t, l), e, w' => e = .returned (.string ⟨t.toArray⟩) ∧ ∃ k, k ≤ s.size ∧ sfx s k = l ∧ RWent g s k bl bd w w'
def SrAt (g : Nat) (s : ByteArray) (bl bd : Bool) (R : Option (List UInt8 × List UInt8)) (w wr : World) (v : Value) (j : Nat) (acc : List UInt8) : Prop :=
  strR (sfx s j) acc = R ∧ RWent g s j bl bd w wr ∧ Own w.heap.size v acc wr
theorem sr_end {s : ByteArray} {j : Nat} {acc : List UInt8} (h : ¬ j < s.size) : strR (sfx s j) acc = none := by rw [sfx_nil h, strR]
theorem sr_quote {s : ByteArray} {j : Nat} {acc : List UInt8} (h : j < s.size) (hc : s[j].toNat = 34) : strR (sfx s j) acc = some (acc, sfx s (j + 1)) := by
  rw [sfx_cons h, strR_cons, if_pos (UInt8.toNat_inj.1 hc)]
theorem sr_plain {s : ByteArray} {j : Nat} {acc : List UInt8} (h : j < s.size) (h1 : ¬ s[j].toNat = 34) (h2 : ¬ s[j].toNat = 92) : strR (sfx s j) acc = strR (sfx s (j + 1)) (acc ++ [s[j]]) := by
  rw [sfx_cons h, strR_cons, if_neg (fun e => h1 (by rw [e]; rfl)), if_neg (fun e => h2 (by rw [e]; rfl))]
theorem sr_esc {s : ByteArray} {j : Nat} {acc : List UInt8} (h : j < s.size) (h2 : s[j].toNat = 92) (h' : j + 1 < s.size) (hx : s[j + 1].toNat = 34 ∨ s[j + 1].toNat = 92) : strR (sfx s j) acc = strR (sfx s (j + 1 + 1)) (acc ++ [s[j + 1]]) := by
  rw [sfx_cons h, sfx_cons h', UInt8.toNat_inj.1 (show s[j].toNat = (92 : UInt8).toNat from h2), strR_cons, if_neg (by decide), if_pos rfl]
  show (if _ then _ else _) = _
  rw [if_pos (hx.imp (fun e => UInt8.toNat_inj.1 e) (fun e => UInt8.toNat_inj.1 e))]
theorem sr_bad {s : ByteArray} {j : Nat} {acc : List UInt8} (h : j < s.size) (h2 : s[j].toNat = 92) (h' : j + 1 < s.size) (hx : ¬ (s[j + 1].toNat = 34 ∨ s[j + 1].toNat = 92)) : strR (sfx s j) acc = none := by
  rw [sfx_cons h, sfx_cons h', UInt8.toNat_inj.1 (show s[j].toNat = (92 : UInt8).toNat from h2), strR_cons, if_neg (by decide), if_pos rfl]
  show (if _ then _ else _) = _
  rw [if_neg (fun q => hx (q.imp (fun e => by rw [e]; rfl) (fun e => by rw [e]; rfl)))]
theorem sr_bad0 {s : ByteArray} {j : Nat} {acc : List UInt8} (h : j < s.size) (h2 : s[j].toNat = 92) (h' : ¬ j + 1 < s.size) : strR (sfx s j) acc = none := by
  rw [sfx_cons h, sfx_nil h', UInt8.toNat_inj.1 (show s[j].toNat = (92 : UInt8).toNat from h2), strR_cons, if_neg (by decide), if_pos rfl]
theorem RWent.own {g k : Nat} {s : ByteArray} {bl bd : Bool} {v : Value} {l : List UInt8} {w a b : World} (hw : RWent g s k bl bd w a) (h : Own w.heap.size v l a) (hg : g < w.heap.size) (hab : a.grownBy b v.ownBlock) : RWent g s k bl bd w b := by
  have hne : some g ≠ v.ownBlock := fun e => by have := (World.ownsRow.lt h g e.symm).1; omega
  refine ⟨⟨hab.os.trans hw.1.os, hab.tape.trans hw.1.tape, hab.output.trans hw.1.output, Nat.le_trans hw.1.size hab.size, fun i hi hne' => ?_⟩, BlockIs.grown hw.2 hab hne⟩
  refine (hab.block i (Nat.lt_of_lt_of_le hi hw.1.size) (fun e => ?_)).trans (hw.1.block i hi hne')
  have := (World.ownsRow.lt h i e.symm).1
  omega
theorem Own.rwent {g B k : Nat} {s : ByteArray} {bl bd : Bool} {v : Value} {l : List UInt8} {a b : World} (h : Own B v l a) (hw : RWent g s k bl bd a b) (hg : g < B) : Own B v l b := by
  refine World.ownsRow.kept h hw.1 ?_
  rcases hb : v.ownBlock with _ | q
  · exact .inl rfl
  · exact .inr (fun e => by rw [Option.some.injEq] at e; have := (World.ownsRow.lt h q hb).1; omega)
theorem RWent.alloc {g k : Nat} {s : ByteArray} {bl bd : Bool} {a b : World} (h : RWent g s k bl bd a b) (o : Obj) : RWent g s k bl bd a (b.alloc o) := ⟨grow_alloc h.1 o, BlockIs.alloc h.2 o⟩
set_option maxRecDepth 100000 in
set_option maxHeartbeats 4000000 in
theorem str_any (g : Nat) (s : ByteArray) (k : Nat) (bl bd : Bool) (w : World) (h : RAt w g s k bl bd) (hk : k ≤ s.size) (hs : s.size ≤ 1000000) :
    Calls Tryz.prog 126 #[.pointer (some ⟨g, 0, none⟩)] w (StrPost g s bl bd w (strR (sfx s k) [])) := by
  have hg := h.lt
  obtain ⟨i0, hi, hz0, hz1, hz2⟩ := info_parts (P := Tryz.prog) (e := 5) (z := .int .u8 0) (size := 1) (bytes := 1) (by kernel_rfl)
  obtain ⟨R, hR⟩ : ∃ R, R = strR (sfx s k) [] := ⟨_, rfl⟩
  rw [← hR]
  have HS := Lib.hid (show SrAt g s bl bd R w w (.slice none 0 0) k [] from ⟨hR.symm, RWent.refl h, Own.nil _ _⟩)
  clear h hR
  go_enter Tryz.func126, Tryz.ntmps126
  go_wp2_with fail
  go_loopw [3] (fun v wr => ∃ (A : Option Addr) (c j : Nat) (acc : List UInt8), v = .slice A acc.length c ∧ j ≤ s.size ∧ acc.length ≤ j ∧ Hid (SrAt g s bl bd R w wr v j acc)) (fun _ wr => s.size - posOf g wr)
  case atStart => exact ⟨none, 0, k, [], rfl, hk, Nat.zero_le _, HS⟩
  case round =>
    clear HS
    obtain ⟨A, c, j, acc, rfl, hj, hacc, HQ⟩ := hrel
    obtain ⟨hq1, hq2, hq3⟩ := HQ.out
    have HE := Lib.hid hq1
    have HX := Lib.hid hq2
    have HO := Lib.hid hq3
    have hmm := Lib.hid hq2.2.pos
    obtain ⟨⟨c0, c1, c2, c3⟩, f1, f3⟩ := hq2.2.cells
    have hzr := hq2.1.size
    have hgr := hq2.2.lt
    clear hq1 hq2 hq3 c2
    by_cases hlt : j < s.size
    · have hw1 : IntKind.i64.wrap ((j : Int) + 1) = (j : Int) + 1 := by rw [IntKind.wrap_i64]; omega
      by_cases h34 : s[j].toNat = 34
      · have e0 : ((s[j].toNat : Int) == 34) = true := by simp; omega
        have HR := Lib.hid (HE.out.symm.trans (sr_quote hlt h34))
        have HX1 := Lib.hid fun m => ((RWent.refl HX.out.2).drewN m).move (j + 1)
        have hcv : ∀ m, (convert 112 9 (.slice A acc.length c)).run Tryz.prog ((wr.drewN m).setCell ⟨g, 1, none⟩ (.int .i64 ((j : Int) + 1))) = .ok (.string ⟨acc.toArray⟩) ((wr.drewN m).setCell ⟨g, 1, none⟩ (.int .i64 ((j : Int) + 1))) := fun m => own_string (Own.rwent HO.out (HX1.out m) hg)
        clear h34
        go_wp2_with fail
        have hd : decide (j < s.size) = true := by simpa using hlt
        go_quiet (fail)
        go_wp2_with fail
        go_quiet (fail)
        go_wp2_with fail
        go_ret
        rw [HR.out]
        exact ⟨rfl, j + 1, hlt, rfl, (HX.out.drewN _).move (j + 1)⟩
      · have e0 : ((s[j].toNat : Int) == 34) = false := by simp; omega
        by_cases h92 : s[j].toNat = 92
        · have e1 : ((s[j].toNat : Int) == 92) = true := by simp; omega
          have HX1 := Lib.hid fun m => ((RWent.refl HX.out.2).drewN m).move (j + 1)
          by_cases hlt2 : j + 1 < s.size
          · have hd2 : decide ((s.size : Int) ≤ (j : Int) + 1) = false := by simp; omega
            have hw2 : IntKind.i64.wrap ((j : Int) + 1 + 1) = (j : Int) + 1 + 1 := by rw [IntKind.wrap_i64]; omega
            by_cases hx : s[j + 1].toNat = 34 ∨ s[j + 1].toNat = 92
            · have HR := Lib.hid ((sr_esc hlt h92 hlt2 hx).symm.trans HE.out)
              have HX2 := Lib.hid fun m m' => (((RWent.refl HX.out.2).drewN m).move (j + 1) |>.drewN m').move (j + 1 + 1)
              clear h34 h92
              obtain ⟨x, hxx⟩ : ∃ x, x = s[j + 1] := ⟨_, rfl⟩
              rw [← hxx] at HR hx
              have hsx := hxx.symm
              clear hxx
              have key : ((x.toNat : Int) != 34) = false ∨ ((x.toNat : Int) != 34) = true ∧ ((x.toNat : Int) != 92) = false := by
                rcases hx with hx | hx
                · left; simp; omega
                · right; constructor <;> (simp; omega)
              clear hx
              rcases key with e2 | ⟨e2, e3⟩
              all_goals
                go_wp2_with fail
                have hd : decide (j < s.size) = true := by simpa using hlt
                go_quiet (fail)
                go_wp2_with fail
                go_quiet (fail)
                go_wp2_with fail
                go_quiet (fail)
                go_wp2_with fail
                go_quiet (fail)
                go_wp2_with (at_builtin; refine wpList_append_own _ rfl _ _ 112 rfl w.heap.size 5 i0 (.int .u8 0) 1 1 Tryz.underlying112 hi hz0 hz1 hz2 rfl (by decide) _ _ _ rfl (World.ownsRow.alloc (Own.rwent HO.out (HX2.out _ _) hg) _) _ 1 1 [.int .u8 x.toNat] rfl rfl ?c1 ?c2 ?c3 ?c4 ?c5 ?_)
                case c1 =>
                  intro i u hj
                  match i, hj with
                  | 0, hj =>
                    simp at hj
                    subst hj
                    exact BlockIs.cell (BlockIs.newAt _ 5 #[.int .u8 x.toNat] (by simp [World.setCell])) 0
                case c2 => intro u hu; simp at hu; subst hu; rfl
                case c3 => unfold maxLen; omega
                case c4 => omega
                case c5 => simp [World.setCell]; omega
                intro v' w5 hown hgrow _
                have HO5 := Lib.hid (Own.push hown)
                have HX5 := Lib.hid (RWent.own (RWent.alloc ((((HX.out.drewN _).move (j + 1)).drewN _).move (j + 1 + 1)) _) (World.ownsRow.alloc (Own.rwent HO.out (HX2.out _ _) hg) _) hg hgrow)
                clear hown hgrow
                obtain ⟨A5, c5, rfl⟩ := HO5.out.form
                go_wp2_with fail
                go_roundw
                case rel => exact ⟨A5, c5, j + 1 + 1, acc ++ [x], rfl, by omega, by simp; omega, Lib.hid ⟨HR.out, HX5.out, HO5.out⟩⟩
                case measure => rw [hmm.out, HX5.out.2.pos]; omega
            · have HR := Lib.hid (HE.out.symm.trans (sr_bad hlt h92 hlt2 hx))
              obtain ⟨x, hxx⟩ : ∃ x, x = s[j + 1] := ⟨_, rfl⟩
              rw [← hxx] at hx
              have hsx := hxx.symm
              clear hxx
              have h34' : ¬ x.toNat = 34 := fun e => hx (.inl e)
              have h92' : ¬ x.toNat = 92 := fun e => hx (.inr e)
              have e2 : ((x.toNat : Int) != 34) = true := by simp; omega
              have e3 : ((x.toNat : Int) != 92) = true := by simp; omega
              clear h34 h92 hx h34' h92'
              go_wp2_with fail
              have hd : decide (j < s.size) = true := by simpa using hlt
              go_quiet (fail)
              go_wp2_with fail
              go_quiet (fail)
              go_wp2_with fail
              go_quiet (fail)
              go_wp2_with fail
              go_ret
              rw [HR.out]
              exact ⟨rfl, j + 1, hlt, (((HX.out.drewN _).move (j + 1)).drewN _).wrong⟩
          · have HR := Lib.hid (HE.out.symm.trans (sr_bad0 hlt h92 hlt2))
            have hd2 : decide ((s.size : Int) ≤ (j : Int) + 1) = true := by simp; omega
            clear h34 h92
            go_wp2_with fail
            have hd : decide (j < s.size) = true := by simpa using hlt
            go_quiet (fail)
            go_wp2_with fail
            go_quiet (fail)
            go_wp2_with fail
            go_quiet (fail)
            go_wp2_with fail
            go_ret
            rw [HR.out]
            exact ⟨rfl, j + 1, hlt, (((HX.out.drewN _).move (j + 1)).drewN _).wrong⟩
        · have e1 : ((s[j].toNat : Int) == 92) = false := by simp; omega
          have HR := Lib.hid ((sr_plain hlt h34 h92).symm.trans HE.out)
          have HX1 := Lib.hid fun m => ((RWent.refl HX.out.2).drewN m).move (j + 1)
          obtain ⟨x, hxx⟩ : ∃ x, x = s[j] := ⟨_, rfl⟩
          rw [← hxx] at HR e0 e1
          have hsx := hxx.symm
          clear h34 h92 hxx
          go_wp2_with fail
          have hd : decide (j < s.size) = true := by simpa using hlt
          go_quiet (fail)
          go_wp2_with fail
          go_quiet (fail)
          go_wp2_with (at_builtin; refine wpList_append_own _ rfl _ _ 112 rfl w.heap.size 5 i0 (.int .u8 0) 1 1 Tryz.underlying112 hi hz0 hz1 hz2 rfl (by decide) _ _ _ rfl (World.ownsRow.alloc (Own.rwent HO.out (HX1.out _) hg) _) _ 1 1 [.int .u8 x.toNat] rfl rfl ?c1 ?c2 ?c3 ?c4 ?c5 ?_)
          case c1 =>
            intro i u hj
            match i, hj with
            | 0, hj =>
              simp at hj
              subst hj
              exact BlockIs.cell (BlockIs.newAt _ 5 #[.int .u8 x.toNat] (by simp [World.setCell])) 0
          case c2 => intro u hu; simp at hu; subst hu; rfl
          case c3 => unfold maxLen; omega
          case c4 => omega
          case c5 => simp [World.setCell]; omega
          intro v' w5 hown hgrow _
          have HO5 := Lib.hid (Own.push hown)
          have HX5 := Lib.hid (RWent.own (RWent.alloc ((HX.out.drewN _).move (j + 1)) _) (World.ownsRow.alloc (Own.rwent HO.out (HX1.out _) hg) _) hg hgrow)
          clear hown hgrow
          obtain ⟨A5, c5, rfl⟩ := HO5.out.form
          go_wp2_with fail
          go_roundw
          case rel => exact ⟨A5, c5, j + 1, acc ++ [x], rfl, by omega, by simp; omega, Lib.hid ⟨HR.out, HX5.out, HO5.out⟩⟩
          case measure => rw [hmm.out, HX5.out.2.pos]; omega
    · have HR := Lib.hid (HE.out.symm.trans (sr_end hlt))
      go_wp2_with fail
      have hd : decide (j < s.size) = false := by simpa using hlt
      go_quiet (fail)
      go_wp2_with fail
      go_ret
      rw [HR.out]
      exact ⟨rfl, j, hj, (HX.out.drewN _).wrong⟩
open Go.RowKit
def withK (k : ByteArray) (x : V) : Bool → List ByteArray → List V → List ByteArray × List V
  | d, kk :: ks, y :: l =>
    if d = false ∧ ltB kk k = false then
      (if kk = k then (k :: (withK k x true ks l).1, x :: (withK k x true ks l).2) else (k :: kk :: (withK k x true ks l).1, x :: y :: (withK k x true ks l).2))
    else (if kk = k then withK k x d ks l else (kk :: (withK k x d ks l).1, y :: (withK k x d ks l).2))
  | d, _, _ => if d = true then ([], []) else ([k], [x])
theorem withK_done (k : ByteArray) (x : V) : ∀ (ks : List ByteArray) (l : List V), ks.length = l.length → ¬ k ∈ ks → withK k x true ks l = (ks, l)
  | [], [], _, _ => by simp [withK]
  | [], _ :: _, h, _ => by simp at h
  | _ :: _, [], h, _ => by simp at h
  | kk :: ks, y :: l, h, hk => by
    have h1 : ¬ kk = k := fun e => hk (by simp [e])
    have ih := withK_done k x ks l (by simpa using h) (fun e => hk (by simp [e]))
    rw [withK, if_neg (by simp), if_neg h1, ih]
theorem withK_ins (k : ByteArray) (x : V) : ∀ (ks : List ByteArray) (l : List V), ks.length = l.length → ¬ k ∈ ks → withK k x false ks l = insK (ks, l) k x
  | [], [], _, _ => by simp [withK, insK, posK]
  | [], _ :: _, h, _ => by simp at h
  | _ :: _, [], h, _ => by simp at h
  | kk :: ks, y :: l, h, hk => by
    have h1 : ¬ kk = k := fun e => hk (by simp [e])
    have h2 : ¬ k ∈ ks := fun e => hk (by simp [e])
    have hl : ks.length = l.length := by simpa using h
    unfold insK
    rw [withK, posK]
    cases hb : ltB kk k
    · rw [if_pos ⟨rfl, rfl⟩, if_neg h1, withK_done k x ks l hl h2]
      simp
    · rw [if_neg (by simp), if_neg h1, withK_ins k x ks l hl h2]
      simp [insK]
theorem withK_len (k : ByteArray) (x : V) : ∀ (d : Bool) (ks : List ByteArray) (l : List V), ks.length = l.length → (withK k x d ks l).1.length = (withK k x d ks l).2.length
  | d, [], [], _ => by cases d <;> simp [withK]
  | _, [], _ :: _, h => by simp at h
  | _, _ :: _, [], h => by simp at h
  | d, kk :: ks, y :: l, h => by
    have hl : ks.length = l.length := by simpa using h
    have h1 := withK_len k x true ks l hl
    have h2 := withK_len k x d ks l hl
    rw [withK]
    split <;> split <;> simp [h1, h2]
theorem five_cells {w : World} {g : Nat} {t : TypeId} {a b c d e : Value} (h : BlockIs w g t #[a, b, c, d, e]) : w.cell? ⟨g, 0, none⟩ = some a ∧ w.cell? ⟨g, 1, none⟩ = some b ∧ w.cell? ⟨g, 2, none⟩ = some c ∧ w.cell? ⟨g, 3, none⟩ = some d ∧ w.cell? ⟨g, 4, none⟩ = some e :=
  ⟨h.cell 0, h.cell 1, h.cell 2, h.cell 3, h.cell 4⟩
theorem LiesFromIn.at_ {P : Nat → Prop} {w : World} {l : List V} {b o : Nat} (h : LiesFromIn P w l b o) {k : Nat} {x : V} (hx : l[k]? = some x) :
    ∃ A c K d, (w.cell? ⟨b, o + k * 5, none⟩ = some (.int .i64 x.kind) ∧ w.cell? ⟨b, o + k * 5 + 1, none⟩ = some (.int .i64 x.int) ∧ w.cell? ⟨b, o + k * 5 + 2, none⟩ = some (.string x.text) ∧
      w.cell? ⟨b, o + k * 5 + 3, none⟩ = some (.slice A x.items.length c) ∧ w.cell? ⟨b, o + k * 5 + 4, none⟩ = some (.slice K x.keys.length d)) ∧ LiesIn P w x A c K d := by
  induction l generalizing o k with
  | nil => simp at hx
  | cons y r ih =>
    rw [LiesFromIn] at h
    cases k with
    | zero =>
      simp at hx
      subst hx
      obtain ⟨⟨A, c, K, d, h0, h1, h2, h3, h4, h5⟩, _⟩ := h
      exact ⟨A, c, K, d, by simpa using ⟨h0, h1, h2, h3, h4⟩, h5⟩
    | succ k => simp at hx; have := ih h.2 hx; rw [show o + (k + 1) * 5 = o + 5 + k * 5 by omega]; exact this
theorem LiesIn.item_at {P : Nat → Prop} {w : World} {kd i : Int} {t : ByteArray} {l : List V} {ks : List ByteArray} {A K : Option Addr} {c d : Nat} (h : LiesIn P w (.mk kd i t l ks) A c K d) {j : Nat} {x : V} (hx : l[j]? = some x) :
    ∃ b o, A = some ⟨b, o, none⟩ ∧ P b ∧ ∃ A' c' K' d', (w.cell? ⟨b, o + j * 5, none⟩ = some (.int .i64 x.kind) ∧ w.cell? ⟨b, o + j * 5 + 1, none⟩ = some (.int .i64 x.int) ∧ w.cell? ⟨b, o + j * 5 + 2, none⟩ = some (.string x.text) ∧
      w.cell? ⟨b, o + j * 5 + 3, none⟩ = some (.slice A' x.items.length c') ∧ w.cell? ⟨b, o + j * 5 + 4, none⟩ = some (.slice K' x.keys.length d')) ∧ LiesIn P w x A' c' K' d' := by
  rw [LiesIn] at h
  rcases h.2.2.2.2 with rfl | ⟨b, o, hA, hb, hf⟩
  · simp at hx
  · exact ⟨b, o, hA, hb, hf.at_ hx⟩
theorem LiesIn.key_at {P : Nat → Prop} {w : World} {kd i : Int} {t : ByteArray} {l : List V} {ks : List ByteArray} {A K : Option Addr} {c d : Nat} (h : LiesIn P w (.mk kd i t l ks) A c K d) {j : Nat} {k : ByteArray} (hk : ks[j]? = some k) :
    ∃ b o, K = some ⟨b, o, none⟩ ∧ P b ∧ w.cell? ⟨b, o + j, none⟩ = some (.string k) ∧ k.size ≤ maxLen := by
  rw [LiesIn] at h
  rcases h.2.2.2.1.2.2 with rfl | ⟨b, o, hA, hb, hf⟩
  · simp at hk
  · obtain ⟨h1, h2⟩ := hf.at_ hk
    exact ⟨b, o, hA, hb, h1, h2⟩
theorem two_apart {w : World} {b1 b2 e1 e2 s1 s2 n1 n2 : Nat} {v1 v2 : Value} {xs1 xs2 : List Value} (h1 : w.ownsRow b1 e1 s1 v1 n1 xs1) (h2 : w.ownsRow b2 e2 s2 v2 n2 xs2) (he : e1 ≠ e2) : v1.ownBlock = none ∨ v1.ownBlock ≠ v2.ownBlock := by
  obtain ⟨_, ⟨rfl, _⟩ | ⟨g1, c1, r1, rfl, _, hg1, _⟩⟩ := h1
  · exact .inl rfl
  · obtain ⟨_, ⟨rfl, _⟩ | ⟨g2, c2, r2, rfl, _, hg2, _⟩⟩ := h2
    · right; simp [Value.ownBlock]
    · right
      intro e
      simp only [Value.ownBlock, Option.some.injEq] at e
      subst e
      rw [hg1] at hg2
      simp only [Option.some.injEq, Obj.cells.injEq] at hg2
      exact he hg2.2.1
structure WInv (w : World) (G : Nat) (vc xc : Array Value) (P : Nat → Prop) (oks : List ByteArray) (ol : List V) (rI rK : Value) (css : List (List Value)) (W : World) : Prop where
  old : Below w.heap.size w W
  far : w.heap.size + 3 ≤ G
  b0 : BlockIs W w.heap.size 38 vc
  b1 : BlockIs W (w.heap.size + 1) 38 xc
  b2 : BlockIs W (w.heap.size + 2) 38 zeroF
  bG : BlockIs W G 38 #[.int .i64 5, .int .i64 0, .string ⟨#[]⟩, rI, rK]
  items : W.ownsRow (G + 1) 38 5 rI ol.length css.flatten
  keys : W.ownsRow (G + 1) 9 1 rK oks.length (oks.map Value.string)
  rows : RowsIn P W ol css
  olds : ∀ b, P b → b < w.heap.size
  sizes : ∀ k ∈ oks, k.size ≤ maxLen
section
variable {w W w1 : World} {G : Nat} {vc xc : Array Value} {P : Nat → Prop} {oks : List ByteArray} {ol : List V} {rI rK v' : Value} {css : List (List Value)}
theorem own_ge {b e s n : Nat} {v : Value} {xs : List Value} (h : W.ownsRow b e s v n xs) {g : Nat} (hg : g < b) : some g ≠ v.ownBlock := fun q => by have := (World.ownsRow.lt h g q.symm).1; omega
theorem WInv.key (h : WInv w G vc xc P oks ol rI rK css W) {key : ByteArray} (hk : key.size ≤ maxLen) (hw : W.grownBy w1 rK.ownBlock) (hown : w1.ownsRow (G + 1) 9 1 v' (oks.length + 1) (oks.map Value.string ++ [.string key])) :
    WInv w G vc xc P (oks ++ [key]) ol rI v' css (w1.setCell ⟨G, 4, none⟩ v') := by
  have hge : ∀ g, g < G + 1 → some g ≠ rK.ownBlock := fun g hg => own_ge h.keys hg
  have hf := h.far
  have hB : Below w.heap.size w w1 := h.old.trans (below_grow hw h.old.size (fun r e => by have := (World.ownsRow.lt h.keys r e).1; omega))
  have hB2 : Below w.heap.size w (w1.setCell ⟨G, 4, none⟩ v') := hB.setCell (by simp; omega) _
  have hcell : ∀ b o, P b → (w1.setCell ⟨G, 4, none⟩ v').cell? ⟨b, o, none⟩ = W.cell? ⟨b, o, none⟩ := fun b o hb => (bcell hB2 b o (h.olds b hb)).trans (bcell h.old b o (h.olds b hb)).symm
  refine ⟨hB2, hf, ?_, ?_, ?_, ?_, ?_, ?_, h.rows.keep hcell (fun b hb => hb), h.olds, ?_⟩
  · exact (h.b0.grown hw (hge _ (by omega))).far (by simp; omega) _
  · exact (h.b1.grown hw (hge _ (by omega))).far (by simp; omega) _
  · exact (h.b2.grown hw (hge _ (by omega))).far (by simp; omega) _
  · have := (h.bG.grown hw (hge _ (by omega))).set_ 4 v'
    simpa using this
  · exact own_set_far (h.items.kept hw (two_apart h.items h.keys (by decide))) _ _ (own_ge h.items (by simp))
  · have := own_set_far hown ⟨G, 4, none⟩ v' (own_ge hown (by simp))
    simpa using this
  · intro k hk'
    rcases List.mem_append.1 hk' with hk' | hk'
    · exact h.sizes k hk'
    · rw [List.mem_singleton.1 hk']; exact hk
theorem WInv.item (h : WInv w G vc xc P oks ol rI rK css W) {y : V} {A K : Option Addr} {c d : Nat} (hy : LiesIn P w y A c K d) (hw : W.grownBy w1 rI.ownBlock) (hown : w1.ownsRow (G + 1) 38 5 v' (ol.length + 1) (css.flatten ++ fieldsL y A c K d)) :
    WInv w G vc xc P oks (ol ++ [y]) v' rK (css ++ [fieldsL y A c K d]) (w1.setCell ⟨G, 3, none⟩ v') := by
  have hge : ∀ g, g < G + 1 → some g ≠ rI.ownBlock := fun g hg => own_ge h.items hg
  have hf := h.far
  have hB : Below w.heap.size w w1 := h.old.trans (below_grow hw h.old.size (fun r e => by have := (World.ownsRow.lt h.items r e).1; omega))
  have hB2 : Below w.heap.size w (w1.setCell ⟨G, 3, none⟩ v') := hB.setCell (by simp; omega) _
  have hcell : ∀ b o, P b → (w1.setCell ⟨G, 3, none⟩ v').cell? ⟨b, o, none⟩ = W.cell? ⟨b, o, none⟩ := fun b o hb => (bcell hB2 b o (h.olds b hb)).trans (bcell h.old b o (h.olds b hb)).symm
  refine ⟨hB2, hf, ?_, ?_, ?_, ?_, ?_, ?_, ?_, h.olds, h.sizes⟩
  · exact (h.b0.grown hw (hge _ (by omega))).far (by simp; omega) _
  · exact (h.b1.grown hw (hge _ (by omega))).far (by simp; omega) _
  · exact (h.b2.grown hw (hge _ (by omega))).far (by simp; omega) _
  · have := (h.bG.grown hw (hge _ (by omega))).set_ 3 v'
    simpa using this
  · have := own_set_far hown ⟨G, 3, none⟩ v' (own_ge hown (by simp))
    simpa [List.flatten_append] using this
  · exact own_set_far (h.keys.kept hw (two_apart h.keys h.items (by decide))) _ _ (own_ge h.keys (by simp))
  · exact RowsIn.append (ys := [y]) (dss := [fieldsL y A c K d]) ⟨⟨A, c, K, d, rfl, LiesIn.keep (fun b o hb => bcell hB2 b o (h.olds b hb)) (fun b hb => hb) y hy⟩, trivial⟩ (h.rows.keep hcell (fun b hb => hb))
theorem WInv.facts (h : WInv w G vc xc P oks ol rI rK css W) : (W.cell? ⟨G, 3, none⟩ = some rI ∧ W.cell? ⟨G, 4, none⟩ = some rK ∧ W.frozen? ⟨G, 3, none⟩ = false ∧ W.frozen? ⟨G, 4, none⟩ = false) ∧ G < W.heap.size := by
  have c3 := BlockIs.cell h.bG 3
  have c4 := BlockIs.cell h.bG 4
  exact ⟨⟨c3, c4, BlockIs.frozen h.bG 3, BlockIs.frozen h.bG 4⟩, BlockIs.lt h.bG⟩
end
open Go.RowKit
theorem hasK_no {key : ByteArray} {ks : List ByteArray} (h : ∀ t, t < ks.length → ks[t]? ≠ some key) : hasK key ks = false := by
  cases e : hasK key ks
  · rfl
  · obtain ⟨t, ht, he⟩ := List.getElem_of_mem ((hasK_iff key ks).1 e)
    exact absurd (by rw [List.getElem?_eq_getElem ht, he]) (h t ht)
theorem hasK_yes {key : ByteArray} {ks : List ByteArray} {t : Nat} (h : ks[t]? = some key) : hasK key ks = true := (hasK_iff key ks).2 (List.mem_of_getElem? h)
set_option maxRecDepth 100000 in
set_option maxHeartbeats 4000000 in
theorem has_any (ks : List ByteArray) (K : Option Addr) (d : Nat) (key : ByteArray) (w : World) (hl : ks.length ≤ 1000000)
    (hK : ks = [] ∨ ∃ b o, K = some ⟨b, o, none⟩ ∧ ∀ j v, ks[j]? = some v → w.cell? ⟨b, o + j, none⟩ = some (.string v)) :
    Calls Tryz.prog 150 #[.slice K ks.length d, .string key] w fun e w' => e = .returned (.bool (hasK key ks)) ∧ ∃ q, w' = w.drewN q := by
  obtain ⟨n, hn⟩ : ∃ n, n = ks.length := ⟨_, rfl⟩
  have HN := Lib.hid hn
  have HK := Lib.hid hK
  rw [← hn] at hl ⊢
  clear hn hK
  go_enter Tryz.func150, Tryz.ntmps150
  go_wp2_with fail
  go_loopw [5] (fun iv wr => ∃ j : Nat, iv = .int .i64 j ∧ j ≤ n ∧ Hid ((∃ q, wr = w.drewN q) ∧ ∀ t, t < j → ks[t]? ≠ some key)) (fun iv _ => n - (intOf iv).toNat)
  case atStart => exact ⟨0, rfl, Nat.zero_le _, Lib.hid ⟨⟨0, rfl⟩, fun t ht => absurd ht (Nat.not_lt_zero t)⟩⟩
  case round =>
    obtain ⟨j, rfl, hj, hI⟩ := hrel
    obtain ⟨⟨q, rfl⟩, hno⟩ := hI.out
    have HNO := Lib.hid hno
    clear hno hI
    by_cases hlt : j < n
    · have hj2 : j < ks.length := by rw [← HN.out]; exact hlt
      obtain ⟨kk, hkk⟩ : ∃ kk, ks[j]? = some kk := ⟨_, List.getElem?_eq_getElem hj2⟩
      obtain ⟨b, o, rfl, hc⟩ : ∃ b o, K = some ⟨b, o, none⟩ ∧ ∀ j v, ks[j]? = some v → w.cell? ⟨b, o + j, none⟩ = some (.string v) := by
        rcases HK.out with rfl | h
        · simp at hj2
        · exact h
      have hv : (w.drewN q).cell? ⟨b, o + j, none⟩ = some (.string kk) := hc j kk hkk
      have h0 : 0 ≤ (j : Int) := by omega
      have hjn : (j : Int) < n := by omega
      have HC := Lib.hid hkk
      clear hkk hc hj2
      cases hkeq : (kk.toList == key.toList)
      · have HKQ : Hid (¬ kk = key) := Lib.hid (fun e => by rw [e] at hkeq; simp at hkeq)
        go_wp2_with fail
        go_roundw
        case rel =>
          refine ⟨j + 1, by go_num, by omega, Lib.hid ⟨⟨q, rfl⟩, fun t ht => ?_⟩⟩
          by_cases e : t = j
          · rw [e, HC.out]; exact fun e => HKQ.out (Option.some.inj e)
          · exact HNO.out t (by omega)
        case measure => simp [intOf]; omega
      · have HKQ : Hid (kk = key) := Lib.hid (by
          rw [beq_iff_eq, ByteArray.toList_eq, ByteArray.toList_eq] at hkeq
          exact ByteArray.ext (Array.ext' hkeq))
        go_wp2_with fail
        refine bodyPost_ret (v := .bool true) (by simp [results, Tryz.results150, go_sem]) rfl ⟨?_, q, rfl⟩
        rw [hasK_yes (by rw [HC.out, HKQ.out])]
    · have hjn : ¬ ((j : Int) < n) := by omega
      have HF := Lib.hid (hasK_no (key := key) (ks := ks) (fun t ht => HNO.out t (by have := HN.out; omega)))
      go_wp2_with fail
      refine bodyPost_ret (v := .bool false) (by simp [results, Tryz.results150, go_sem]) rfl ⟨by rw [HF.out], q, rfl⟩
end Go.Proofs.YthlmnhelmhnpfaaGreatDoor
