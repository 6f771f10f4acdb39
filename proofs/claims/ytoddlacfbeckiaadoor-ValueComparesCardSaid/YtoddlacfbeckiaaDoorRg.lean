/- Number and Fits, of both sides. -/
import Derived.Test.YtoddlacfbeckiaaDoorRd
namespace Go.Proofs.YtoddlacfbeckiaaDoor
open Go.RowKit

def zeroV : Value := .agg #[.int .i64 0, .int .i64 0, .string ⟨#[]⟩, .slice none 0 0, .slice none 0 0]
def numV (n : Int) : Value := .agg #[.int .i64 2, .int .i64 n, .string ⟨#[]⟩, .slice none 0 0, .slice none 0 0]
def NumPost (r : Bool) (n : Int) (w : World) (e : Ending) (w' : World) : Prop :=
  e = .returned (if r then .tuple #[numV n, .int .i64 0] else .tuple #[zeroV, .int .i64 3]) ∧ Below w.heap.size w w'
def withinB (n : Int) : Bool := decide (-1000000000000 ≤ n) && decide (n ≤ 1000000000000)

set_option maxHeartbeats 1000000 in
theorem refInt_any (n : Int) (w : World) :
    Calls Tryd.prog 33 #[.int .i64 n] w fun e w' => e = .returned (numV n) ∧ Below w.heap.size w w' := by
  go_enter Tryd.func33, Tryd.ntmps33
  go_wp2_with fail
  exact bodyPost_ret (v := numV n) (by simp [results, Tryd.results33, go_sem, numV]) rfl ⟨rfl, (Below.refl _ _).alloc (Nat.le_refl _) _⟩

set_option maxHeartbeats 1000000 in
theorem valNumber_any (n : Int) (w : World) :
    Calls Tryd.prog 14 #[.int .i64 n] w (NumPost (withinB n) n w) := by
  have HW := Lib.hid fun W => within_any n W
  obtain ⟨r, hr⟩ : ∃ r, r = withinB n := ⟨_, rfl⟩
  unfold withinB at hr
  rw [← hr] at HW
  rw [show withinB n = r from hr.symm]
  clear hr
  cases r
  all_goals go_enter Tryd.func14, Tryd.ntmps14
  all_goals go_wp2_with fail
  all_goals refine (HW.out _).mono ?_
  all_goals rintro e w' ⟨rfl, rfl⟩
  all_goals go_wp2_with fail
  · exact bodyPost_ret (v := .tuple #[zeroV, .int .i64 3]) (by simp [results, Tryd.results14, go_sem, zeroV]) rfl ⟨rfl, (Below.refl _ _).alloc (Nat.le_refl _) _⟩
  · exact bodyPost_ret (v := .tuple #[numV n, .int .i64 0]) (by simp [results, Tryd.results14, go_sem, numV]) rfl ⟨rfl, (Below.refl _ _).alloc (Nat.le_refl _) _⟩

set_option maxHeartbeats 1000000 in
theorem refNumber_any (n : Int) (w : World) :
    Calls Tryd.prog 15 #[.int .i64 n] w (NumPost (withinB n) n w) := by
  by_cases h0 : n < -1000000000000
  · rw [show withinB n = false by unfold withinB; simp; omega]
    go_enter Tryd.func15, Tryd.ntmps15
    go_wp2_with fail
    exact bodyPost_ret (v := .tuple #[zeroV, .int .i64 3]) (by simp [results, Tryd.results15, go_sem, zeroV]) rfl ⟨rfl, (Below.refl _ _).alloc (Nat.le_refl _) _⟩
  by_cases h1 : 1000000000000 < n
  · rw [show withinB n = false by unfold withinB; simp; omega]
    go_enter Tryd.func15, Tryd.ntmps15
    go_wp2_with fail
    exact bodyPost_ret (v := .tuple #[zeroV, .int .i64 3]) (by simp [results, Tryd.results15, go_sem, zeroV]) rfl ⟨rfl, (Below.refl _ _).alloc (Nat.le_refl _) _⟩
  rw [show withinB n = true by unfold withinB; simp; omega]
  go_enter Tryd.func15, Tryd.ntmps15
  go_wp2_with fail
  refine (refInt_any n _).mono ?_
  rintro e w' ⟨rfl, hb⟩
  have HB := Lib.hid hb
  have hc := bcell hb
  have hf := bfro hb
  have hz := hb.size
  simp only [World.size_alloc] at hz
  clear hb
  unfold numV
  go_wp2_with fail
  refine bodyPost_ret (v := .tuple #[numV n, .int .i64 0]) (by simp [results, Tryd.results15, go_sem, numV, hc, hz]) rfl ⟨rfl, ?_⟩
  iterate 5 refine Below.setCell ?_ (by exact Nat.le_refl _) _
  exact ((Below.refl _ _).alloc (Nat.le_refl _) _).trans (HB.out.mono (by simp))

def fitsB (v : Bool) (k t : Int) : Bool :=
  v && if t = 1 then (k == 0 || k == 1) else if t = 2 then (k == 0 || k == 2) else if t = 3 then (k == 0 || k == 3) else t == 4

set_option maxRecDepth 100000 in
set_option maxHeartbeats 2000000 in
theorem fits_walk (k i : Int) (s : ByteArray) (n m : Nat) (t : Int) (w : World) (A K : Option Addr) (c d : Nat) (v : Bool) (HV : Hid (∀ W : World, Below w.heap.size w W → Calls Tryd.prog 16 #[.agg #[.int .i64 k, .int .i64 i, .string s, .slice A n c, .slice K m d]] W fun e w' => e = .returned (.bool v) ∧ Below W.heap.size W w')) :
    Calls Tryd.prog 18 #[.agg #[.int .i64 k, .int .i64 i, .string s, .slice A n c, .slice K m d], .int .i64 t] w fun e w' => e = .returned (.bool (fitsB v k t)) ∧ Below w.heap.size w w' := by
  cases v
  · go_enter Tryd.func18, Tryd.ntmps18
    go_wp2_with fail
    refine (HV.out _ ((Below.refl _ _).alloc (Nat.le_refl _) _)).mono ?_
    rintro e w' ⟨rfl, hb⟩
    have HB := Lib.hid (((Below.refl w.heap.size w).alloc (Nat.le_refl _) _).trans (hb.mono (by simp)))
    clear hb
    go_wp2_with fail
    go_ret
    exact ⟨rfl, HB.out⟩
  rcases (by omega : t = 1 ∨ t = 2 ∨ t = 3 ∨ ¬ t = 1 ∧ ¬ t = 2 ∧ ¬ t = 3) with rfl | rfl | rfl | ⟨h1, h2, h3⟩
  all_goals go_enter Tryd.func18, Tryd.ntmps18
  all_goals go_wp2_with fail
  all_goals refine (HV.out _ ((Below.refl _ _).alloc (Nat.le_refl _) _)).mono ?_
  all_goals rintro e w' ⟨rfl, hb⟩
  all_goals have HB := Lib.hid (((Below.refl w.heap.size w).alloc (Nat.le_refl _) _).trans (hb.mono (by simp)))
  all_goals have hc := bcell hb
  all_goals have hz := hb.size
  all_goals simp only [World.size_alloc] at hz
  all_goals clear hb
  all_goals go_wp2_with fail
  all_goals go_ret
  all_goals go_light
  all_goals exact ⟨ret_bool (by simp [fitsB, *]), HB.out⟩

set_option maxRecDepth 100000 in
set_option maxHeartbeats 2000000 in
theorem refFits_walk (k i : Int) (s : ByteArray) (n m : Nat) (t : Int) (w : World) (A K : Option Addr) (c d : Nat) (v : Bool) (HV : Hid (∀ W : World, Below w.heap.size w W → Calls Tryd.prog 17 #[.agg #[.int .i64 k, .int .i64 i, .string s, .slice A n c, .slice K m d]] W fun e w' => e = .returned (.bool v) ∧ Below W.heap.size W w')) :
    Calls Tryd.prog 19 #[.agg #[.int .i64 k, .int .i64 i, .string s, .slice A n c, .slice K m d], .int .i64 t] w fun e w' => e = .returned (.bool (fitsB v k t)) ∧ Below w.heap.size w w' := by
  by_cases ht : t < 1
  · rw [show fitsB v k t = false by unfold fitsB; rw [if_neg (by omega), if_neg (by omega), if_neg (by omega)]; simp; omega]
    go_enter Tryd.func19, Tryd.ntmps19
    go_wp2_with fail
    go_ret
    exact ⟨rfl, (Below.refl _ _).alloc (Nat.le_refl _) _⟩
  by_cases ht' : 4 < t
  · rw [show fitsB v k t = false by unfold fitsB; rw [if_neg (by omega), if_neg (by omega), if_neg (by omega)]; simp; omega]
    go_enter Tryd.func19, Tryd.ntmps19
    go_wp2_with fail
    go_ret
    exact ⟨rfl, (Below.refl _ _).alloc (Nat.le_refl _) _⟩
  cases v
  · have ht1 : 1 ≤ t := by omega
    have ht2 : t ≤ 4 := by omega
    clear ht ht'
    go_enter Tryd.func19, Tryd.ntmps19
    go_wp2_with fail
    refine (HV.out _ ((Below.refl _ _).alloc (Nat.le_refl _) _)).mono ?_
    rintro e w' ⟨rfl, hb⟩
    have HB := Lib.hid (((Below.refl w.heap.size w).alloc (Nat.le_refl _) _).trans (hb.mono (by simp)))
    clear hb
    go_wp2_with fail
    go_ret
    exact ⟨rfl, HB.out⟩
  rcases (by omega : t = 1 ∨ t = 2 ∨ t = 3 ∨ t = 4) with rfl | rfl | rfl | rfl
  all_goals clear ht ht'
  all_goals go_enter Tryd.func19, Tryd.ntmps19
  all_goals go_wp2_with fail
  all_goals refine (HV.out _ ((Below.refl _ _).alloc (Nat.le_refl _) _)).mono ?_
  all_goals rintro e w' ⟨rfl, hb⟩
  all_goals have HB := Lib.hid (((Below.refl w.heap.size w).alloc (Nat.le_refl _) _).trans (hb.mono (by simp)))
  all_goals have hc := bcell hb
  all_goals have hz := hb.size
  all_goals simp only [World.size_alloc] at hz
  all_goals clear hb
  all_goals go_wp2_with fail
  all_goals go_ret
  all_goals go_light
  all_goals exact ⟨ret_bool (by simp [fitsB, *]), HB.out⟩

theorem fits_any (x : V) (t : Int) (w : World) (A K : Option Addr) (c d : Nat) (h : Lies w w.heap.size x A c K d) :
    Calls Tryd.prog 18 #[.agg #[.int .i64 x.kind, .int .i64 x.int, .string x.text, .slice A x.items.length c, .slice K x.keys.length d], .int .i64 t] w fun e w' => e = .returned (.bool (fitsB x.valid x.kind t)) ∧ Below w.heap.size w w' :=
  fits_walk _ _ _ _ _ _ _ _ _ _ _ _ (Lib.hid fun W hW => valid_any x W A K c d (Lies.keep (bcell hW) hW.size _ h))
theorem refFits_any (x : V) (t : Int) (w : World) (A K : Option Addr) (c d : Nat) (h : Lies w w.heap.size x A c K d) :
    Calls Tryd.prog 19 #[.agg #[.int .i64 x.kind, .int .i64 x.int, .string x.text, .slice A x.items.length c, .slice K x.keys.length d], .int .i64 t] w fun e w' => e = .returned (.bool (fitsB x.valid x.kind t)) ∧ Below w.heap.size w w' :=
  refFits_walk _ _ _ _ _ _ _ _ _ _ _ _ (Lib.hid fun W hW => refValid_any x W A K c d (Lies.keep (bcell hW) hW.size _ h))
end Go.Proofs.YtoddlacfbeckiaaDoor
