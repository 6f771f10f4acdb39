/- Reading: values of whatever depth. -/
import Derived.Test.YtoddlacfbeckiaaDoorWz
import Derived.Recover
namespace Go.Proofs.YtoddlacfbeckiaaDoor
open Go.RowKit

theorem value_all (g : Nat) (s : ByteArray) (hs : s.size ≤ 1000000) : ∀ (L d k n : Nat) (w : World), L + d = 7 → PAt w g s k n → k ≤ s.size → n ≤ 60 →
    Calls Tryd.prog 48 #[.pointer (some ⟨g, 0, none⟩), .int .i64 d] w (VPost g s w (valueP L n (sfx s k)))
  | 0, d, k, n, w, hL, hP, hk, hn => by
    refine (value_no g s d k n (by omega) w hP hk hn (by omega)).mono ?_
    rintro e w' ⟨rfl, h⟩
    rw [vp_zero]
    exact ⟨rfl, h⟩
  | L + 1, d, k, n, w, hL, hP, hk, hn => by
    by_cases h1 : n + 1 ≤ 60
    · have hval : ∀ (k n : Nat) (W : World), PAt W g s k n → k ≤ s.size → n ≤ 60 → Calls Tryd.prog 48 #[.pointer (some ⟨g, 0, none⟩), .int .i64 ((d : Int) + 1)] W (VPost g s W (valueP L n (sfx s k))) := by
        intro k n W hP hk hn
        rw [show ((d : Int) + 1) = ((d + 1 : Nat) : Int) by omega]
        exact value_all g s hs L (d + 1) k n W (by omega) hP hk hn
      exact value_yes g s hs L d k n (by omega) w hP hk h1
        (fun k n W hP hk hn => list_any g s hs d (by omega) (valueP L) (valueP_more L) (valueP_ok L) hval k n W hP hk hn)
        (fun k n W hP hk hn => object_any g s hs d (by omega) (valueP L) (valueP_more L) (valueP_ok L) hval k n W hP hk hn)
    · refine (value_no g s d k n (by omega) w hP hk hn (fun h => h1 h.1)).mono ?_
      rintro e w' ⟨rfl, h⟩
      rw [vp_many h1]
      exact ⟨rfl, h⟩
set_option maxHeartbeats 2000000 in
theorem catch_panicking (a b : Nat) (hab : ¬ a = b) (c0 c1 c2 c3 c4 d0 : Value) (u : TypeId) (pv : Value) (older : List PanicEntry) (w : World) (h0 : w.cell? ⟨a, 0, none⟩ = some c0) (h1 : w.cell? ⟨a, 1, none⟩ = some c1) (h2 : w.cell? ⟨a, 2, none⟩ = some c2) (h3 : w.cell? ⟨a, 3, none⟩ = some c3) (h4 : w.cell? ⟨a, 4, none⟩ = some c4) (h5 : w.cell? ⟨b, 0, none⟩ = some d0)
    (f0 : w.frozen? ⟨a, 0, none⟩ = false) (f1 : w.frozen? ⟨a, 1, none⟩ = false) (f2 : w.frozen? ⟨a, 2, none⟩ = false) (f3 : w.frozen? ⟨a, 3, none⟩ = false) (f4 : w.frozen? ⟨a, 4, none⟩ = false) (f5 : w.frozen? ⟨b, 0, none⟩ = false) :
    CallsD Tryd.prog 47 #[.pointer (some ⟨a, 0, none⟩), .pointer (some ⟨b, 0, none⟩)] (.panicking ({ v := .iface u pv, recovered := false } :: older)) w fun e u' w' =>
      e = .returned (.tuple #[]) ∧ u' = .panicking ({ v := .iface u pv, recovered := true } :: older) ∧ w' = (put5 w a 0 (.int .i64 0) (.int .i64 0) (.string ⟨#[]⟩) (.slice none 0 0) (.slice none 0 0)).setCell ⟨b, 0, none⟩ (.int .i64 14) := by
  unfold put5
  refine callsD_of_wpS Tryd.func47 rfl fun c₀ cs hu => ?_
  apply wpS_seq
  apply wpS_region
  simp [wpOpsS, go_sem, recoverD, hu, Tryd.ntmps47, Exit.thenS]
  refine wpS_cond (t := true) (by simp [Act.eval, Array.replicate]) ?_
  simp only [if_true]
  apply wpS_region
  simp [wpOpsS, go_sem, h0, h1, h2, h3, h4, h5, f0, f1, f2, f3, f4, f5, hab, bodyPostS, results, Tryd.results47]

set_option maxHeartbeats 2000000 in
theorem catch_idle (p q : Value) (w : World) :
    CallsD Tryd.prog 47 #[p, q] .returning w fun e u' w' => e = .returned (.tuple #[]) ∧ u' = .returning ∧ w' = w := by
  refine callsD_of_wpS Tryd.func47 rfl fun c₀ cs hu => ?_
  apply wpS_seq
  apply wpS_region
  simp [wpOpsS, go_sem, recoverD, hu, Tryd.ntmps47, Exit.thenS]
  refine wpS_cond (t := false) (by simp [Act.eval, Array.replicate]) ?_
  simp only [Bool.false_eq_true, if_false]
  refine wpS_of_wp (wp_skip ?_)
  cases c₀
  simp_all [bodyPostS, results, Tryd.results47]
end Go.Proofs.YtoddlacfbeckiaaDoor
