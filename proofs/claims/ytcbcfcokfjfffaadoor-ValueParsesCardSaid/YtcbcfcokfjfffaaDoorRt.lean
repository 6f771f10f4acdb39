/- The specification's text of a value: numbers. -/
import Derived.Test.YtcbcfcokfjfffaaDoorWl
import Derived.Test.YtcbcfcokfjfffaaDoorWf
import Derived.Test.YtcbcfcokfjfffaaDoorXc
import Derived.Deep.RegionWith
namespace Go.Proofs.YtcbcfcokfjfffaaDoor
open Go.RowKit

theorem itoa_small {n : Int} (h0 : 0 ≤ n) (h : n < 10) : Lib.itoa n = [UInt8.ofNat (48 + n.toNat)] := by
  rw [Lib.itoa, if_neg (by omega), Lib.decDigits, dif_pos (by omega)]
theorem itoa_big {n : Int} (h : ¬ n < 10) : Lib.itoa n = Lib.itoa (n / 10) ++ [UInt8.ofNat (48 + (n % 10).toNat)] := by
  have e1 : (n / 10).toNat = n.toNat / 10 := by omega
  have e2 : (n % 10).toNat = n.toNat % 10 := by omega
  rw [Lib.itoa, if_neg (by omega), Lib.decDigits, dif_neg (by omega), e2, Lib.itoa, if_neg (by omega), e1]
theorem itoa_less {n : Int} (h0 : n < 0) (h : -10 < n) : Lib.itoa n = 45 :: [UInt8.ofNat (48 + n.natAbs)] := by
  rw [Lib.itoa, if_pos h0, Lib.decDigits, dif_pos (by omega)]
theorem itoa_least {n : Int} (h0 : n < 0) (h : ¬ -10 < n) : Lib.itoa n = Lib.itoa (n.tdiv 10) ++ [UInt8.ofNat (48 + (n.tmod 10).natAbs)] ∧ (n.tdiv 10).natAbs < n.natAbs ∧ n ≤ n.tdiv 10 ∧ n.tdiv 10 ≤ 0 ∧ -10 < n.tmod 10 ∧ n.tmod 10 ≤ 0 := by
  obtain ⟨u, rfl⟩ : ∃ u : Nat, n = -(u : Int) := ⟨n.natAbs, by omega⟩
  have e1 : (-(u : Int)).tdiv 10 = -((u / 10 : Nat) : Int) := by rw [Int.neg_tdiv]; rfl
  have e2 : (-(u : Int)).tmod 10 = -((u % 10 : Nat) : Int) := by rw [Int.neg_tmod]; rfl
  rw [e1, e2]
  refine ⟨?_, by omega, by omega, by omega, by omega, by omega⟩
  rw [Lib.itoa, if_pos h0, Lib.decDigits, dif_neg (by omega), Lib.itoa, if_pos (by omega), show (-(u : Int)).natAbs = u by omega, show (-((u / 10 : Nat) : Int)).natAbs = u / 10 by omega, show (-((u % 10 : Nat) : Int)).natAbs = u % 10 by omega]
  rfl
theorem byte_wrap {m : Nat} (_h : m < 10) {q : Int} (hq : q = 48 + m) : IntKind.u8.wrap q = ((UInt8.ofNat (48 + m)).toNat : Int) := by
  rw [IntKind.wrap_u8, UInt8.toNat_ofNat', hq]; omega
theorem digit_more {a b : List UInt8} {c : UInt8} (h : b = a ++ [c]) : Ending.returned (.string (⟨a.toArray⟩ ++ ⟨#[c]⟩)) = Ending.returned (.string ⟨b.toArray⟩) := by
  rw [h, ByteArray.mk_append_mk]
/-- A digit's string. -/
theorem one_string (W : World) (g : Nat) (t : TypeId) (c : UInt8) (h : BlockIs W g t #[.int .u8 c.toNat]) : (convert 61 9 (.slice (some ⟨g, 0, none⟩) 1 1)).run Tryd.prog W = .ok (.string ⟨#[c]⟩) W := by
  refine run_convert_bytes_back W _ _ 5 ⟨g, 0, none⟩ 1 [c] Tryd.underlying61 Tryd.underlying5 Tryd.underlying9 ?_
  intro j hj
  match j, hj with
  | 0, _ => exact BlockIs.cell h 0

set_option maxRecDepth 100000 in
set_option maxHeartbeats 4000000 in
theorem digits_any (N : Nat) : ∀ (n : Int) (w : World), n.natAbs < N → -1000000000000 ≤ n → n ≤ 1000000000000 →
    Calls Tryd.prog 78 #[.int .i64 n] w fun e w' => e = .returned (.string ⟨(Lib.itoa n).toArray⟩) ∧ Below w.heap.size w w' := by
  induction N with
  | zero => intro n w hN; omega
  | succ N ih =>
    intro n w hN h1 h2
    have IH := Lib.hid ih
    clear ih
    by_cases h0 : n < 0
    · by_cases h10 : -10 < n
      · have HI := Lib.hid (itoa_less h0 h10)
        obtain ⟨c, hc⟩ : ∃ c, c = UInt8.ofNat (48 + n.natAbs) := ⟨_, rfl⟩
        rw [← hc] at HI
        have hb : IntKind.u8.wrap (48 - n) = (c.toNat : Int) := by rw [hc]; exact byte_wrap (by omega) (by omega)
        have hcv := one_string (w.alloc (.cells #[.int .u8 c.toNat] 5)) w.heap.size 5 c (BlockIs.new w _ _)
        clear hc
        go_enter Tryd.func78, Tryd.ntmps78
        go_wp2_with fail
        go_ret
        refine ⟨?_, (Below.refl _ _).alloc (Nat.le_refl _) _⟩
        rw [HI.out]
        rfl
      · obtain ⟨hi, g1, g2, g3, g4, g5⟩ := itoa_least h0 h10
        have HI := Lib.hid hi
        obtain ⟨c, hc⟩ : ∃ c, c = UInt8.ofNat (48 + (n.tmod 10).natAbs) := ⟨_, rfl⟩
        rw [← hc] at HI
        have hb : IntKind.u8.wrap (48 - n.tmod 10) = (c.toNat : Int) := by rw [hc]; exact byte_wrap (by omega) (by omega)
        have hw1 : IntKind.i64.wrap (n.tdiv 10) = n.tdiv 10 := by rw [IntKind.wrap_i64]; omega
        have hw2 : IntKind.i64.wrap (48 - n.tmod 10) = 48 - n.tmod 10 := by rw [IntKind.wrap_i64]; omega
        have hw1 : IntKind.i64.wrap (n.tdiv 10) = n.tdiv 10 := by rw [IntKind.wrap_i64]; omega
        have hw2 : IntKind.i64.wrap (48 - n.tmod 10) = 48 - n.tmod 10 := by rw [IntKind.wrap_i64]; omega
        have hA : ∀ W : World, (convert 61 9 (.slice (some ⟨W.heap.size, 0, none⟩) 1 1)).run Tryd.prog (W.alloc (.cells #[.int .u8 c.toNat] 5)) = .ok (.string ⟨#[c]⟩) (W.alloc (.cells #[.int .u8 c.toNat] 5)) := fun W => one_string _ _ 5 c (BlockIs.new W _ _)
        have hB : (convert 61 9 (.slice (some ⟨w.heap.size, 0, none⟩) 1 1)).run Tryd.prog (w.alloc (.cells #[.int .u8 c.toNat] 5)).drew = .ok (.string ⟨#[c]⟩) (w.alloc (.cells #[.int .u8 c.toNat] 5)).drew := one_string _ _ 5 c (BlockIs.new w _ _)
        have hl := Lib.itoa_length_le (n.tdiv 10) (by omega) (by omega)
        clear hc hi
        go_enter Tryd.func78, Tryd.ntmps78
        go_wp2_with fail
        go_region_with (go_at_call 78; refine (IH.out _ _ ?_ ?_ ?_).mono ?_; omega; omega; omega; rintro e w1 ⟨rfl, h1⟩; try have hC := one_string w1 w.heap.size 5 c (BlockIs.below (w := (w.alloc (.cells #[.int .u8 c.toNat] 5)).drew) (BlockIs.new w 5 #[.int .u8 c.toNat]) h1 (by simp)))
        all_goals
          go_wp2_with fail
          go_ret
          refine ⟨digit_more HI.out, ?_⟩
          first
            | exact below_al (below_on (Below.refl _ w).drew h1) _
            | exact below_on (below_al (Below.refl _ w) _).drew h1
    · by_cases h10 : n < 10
      · have HI := Lib.hid (itoa_small (by omega) h10)
        obtain ⟨c, hc⟩ : ∃ c, c = UInt8.ofNat (48 + n.toNat) := ⟨_, rfl⟩
        rw [← hc] at HI
        have hb : IntKind.u8.wrap (48 + n) = (c.toNat : Int) := by rw [hc]; exact byte_wrap (by omega) (by omega)
        have hcv := one_string (w.alloc (.cells #[.int .u8 c.toNat] 5)) w.heap.size 5 c (BlockIs.new w _ _)
        clear hc
        go_enter Tryd.func78, Tryd.ntmps78
        go_wp2_with fail
        go_ret
        refine ⟨?_, (Below.refl _ _).alloc (Nat.le_refl _) _⟩
        rw [HI.out]
        rfl
      · have HI := Lib.hid (itoa_big h10)
        obtain ⟨c, hc⟩ : ∃ c, c = UInt8.ofNat (48 + (n % 10).toNat) := ⟨_, rfl⟩
        rw [← hc] at HI
        have hb : IntKind.u8.wrap (48 + n % 10) = (c.toNat : Int) := by rw [hc]; exact byte_wrap (by omega) (by omega)
        have hw1 : IntKind.i64.wrap (n / 10) = n / 10 := by rw [IntKind.wrap_i64]; omega
        have hw2 : IntKind.i64.wrap (48 + n % 10) = 48 + n % 10 := by rw [IntKind.wrap_i64]; omega
        have hd1 : n.tdiv 10 = n / 10 := Int.tdiv_eq_ediv_of_nonneg (by omega)
        have hd2 : n.tmod 10 = n % 10 := Int.tmod_eq_emod_of_nonneg (by omega)
        have k1 : (n / 10).natAbs < N := by omega
        have k2 : -1000000000000 ≤ n / 10 := by omega
        have k3 : n / 10 ≤ 1000000000000 := by omega
        have hA : ∀ W : World, (convert 61 9 (.slice (some ⟨W.heap.size, 0, none⟩) 1 1)).run Tryd.prog (W.alloc (.cells #[.int .u8 c.toNat] 5)) = .ok (.string ⟨#[c]⟩) (W.alloc (.cells #[.int .u8 c.toNat] 5)) := fun W => one_string _ _ 5 c (BlockIs.new W _ _)
        have hB : (convert 61 9 (.slice (some ⟨w.heap.size, 0, none⟩) 1 1)).run Tryd.prog (w.alloc (.cells #[.int .u8 c.toNat] 5)).drew = .ok (.string ⟨#[c]⟩) (w.alloc (.cells #[.int .u8 c.toNat] 5)).drew := one_string _ _ 5 c (BlockIs.new w _ _)
        have hl := Lib.itoa_length_le (n / 10) (by omega) (by omega)
        clear hc
        go_enter Tryd.func78, Tryd.ntmps78
        go_wp2_with fail
        go_region_with (go_at_call 78; refine (IH.out _ _ ?_ ?_ ?_).mono ?_; exact k1; exact k2; exact k3; rintro e w1 ⟨rfl, h1⟩; try have hC := one_string w1 w.heap.size 5 c (BlockIs.below (w := (w.alloc (.cells #[.int .u8 c.toNat] 5)).drew) (BlockIs.new w 5 #[.int .u8 c.toNat]) h1 (by simp)))
        all_goals
          go_wp2_with fail
          go_ret
          refine ⟨digit_more HI.out, ?_⟩
          first
            | exact below_al (below_on (Below.refl _ w).drew h1) _
            | exact below_on (below_al (Below.refl _ w) _).drew h1
end Go.Proofs.YtcbcfcokfjfffaaDoor
