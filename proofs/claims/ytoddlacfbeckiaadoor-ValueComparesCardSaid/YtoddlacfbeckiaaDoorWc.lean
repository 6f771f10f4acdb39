/- A value without its items. -/
import Derived.Test.YtoddlacfbeckiaaDoorWb
import Derived.Deep.Light
namespace Go.Proofs.YtoddlacfbeckiaaDoor
open Go.RowKit

theorem nat_beq (m n : Nat) : ((m : Int) == (n : Int)) = (m == n) := by rw [Bool.eq_iff_iff]; simp; omega
theorem nat_beq0 (m : Nat) : ((m : Int) == 0) = (m == 0) := by rw [Bool.eq_iff_iff]; simp

set_option maxRecDepth 100000 in
set_option maxHeartbeats 1000000 in
theorem sound0 (i : Int) (t : ByteArray) (n m : Nat) (w : World) (A K : Option Addr) (c d : Nat) :
    Calls Tryd.prog 80 #[.agg #[.int .i64 0, .int .i64 i, .string t, .slice A n c, .slice K m d]] w fun e w' => e = .returned (.bool (i == 0 && t.data.toList.isEmpty && (n == 0 && m == 0))) ∧ Below w.heap.size w w' := by
  go_enter Tryd.func80, Tryd.ntmps80
  go_wp2_with (fail)
  all_goals go_ret
  all_goals go_light
  all_goals exact ⟨ret_bool (by rw [← ByteArray.toList_eq]; simp [nat_beq0, *]), (Below.refl _ _).alloc (Nat.le_refl _) _⟩

set_option maxRecDepth 100000 in
set_option maxHeartbeats 1000000 in
theorem sound1 (i : Int) (t : ByteArray) (n m : Nat) (w : World) (A K : Option Addr) (c d : Nat) :
    Calls Tryd.prog 80 #[.agg #[.int .i64 1, .int .i64 i, .string t, .slice A n c, .slice K m d]] w fun e w' => e = .returned (.bool ((i == 0 || i == 1) && t.data.toList.isEmpty && (n == 0 && m == 0))) ∧ Below w.heap.size w w' := by
  go_enter Tryd.func80, Tryd.ntmps80
  go_wp2_with (fail)
  all_goals go_ret
  all_goals go_light
  all_goals exact ⟨ret_bool (by rw [← ByteArray.toList_eq]; simp [nat_beq0, *]), (Below.refl _ _).alloc (Nat.le_refl _) _⟩

set_option maxRecDepth 100000 in
set_option maxHeartbeats 1000000 in
theorem sound2 (i : Int) (t : ByteArray) (n m : Nat) (w : World) (A K : Option Addr) (c d : Nat) :
    Calls Tryd.prog 80 #[.agg #[.int .i64 2, .int .i64 i, .string t, .slice A n c, .slice K m d]] w fun e w' => e = .returned (.bool ((decide (-1000000000000 ≤ i) && decide (i ≤ 1000000000000)) && t.data.toList.isEmpty && (n == 0 && m == 0))) ∧ Below w.heap.size w w' := by
  go_enter Tryd.func80, Tryd.ntmps80
  go_wp2_with (go_at_call 38; refine (within_any i _).mono ?_; rintro e w' ⟨rfl, rfl⟩)
  all_goals go_ret
  all_goals go_light
  all_goals exact ⟨ret_bool (by rw [← ByteArray.toList_eq]; simp [nat_beq0, *]), (Below.refl _ _).alloc (Nat.le_refl _) _⟩

set_option maxRecDepth 100000 in
set_option maxHeartbeats 1000000 in
theorem sound3 (i : Int) (t : ByteArray) (n m : Nat) (w : World) (A K : Option Addr) (c d : Nat) (ht : t.size ≤ maxLen) :
    Calls Tryd.prog 80 #[.agg #[.int .i64 3, .int .i64 i, .string t, .slice A n c, .slice K m d]] w fun e w' => e = .returned (.bool (i == 0 && textB t.data.toList && (n == 0 && m == 0))) ∧ Below w.heap.size w w' := by
  go_enter Tryd.func80, Tryd.ntmps80
  go_wp2_with (go_at_call 99; refine (printable_any t _ ht).mono ?_; rintro e w' ⟨rfl, rfl⟩)
  all_goals go_ret
  all_goals go_light
  all_goals exact ⟨ret_bool (by simp [nat_beq0, *]), (Below.refl _ _).alloc (Nat.le_refl _) _⟩

set_option maxRecDepth 100000 in
set_option maxHeartbeats 1000000 in
theorem sound4 (i : Int) (t : ByteArray) (n m : Nat) (w : World) (A K : Option Addr) (c d : Nat) :
    Calls Tryd.prog 80 #[.agg #[.int .i64 4, .int .i64 i, .string t, .slice A n c, .slice K m d]] w fun e w' => e = .returned (.bool (i == 0 && t.data.toList.isEmpty && m == 0)) ∧ Below w.heap.size w w' := by
  go_enter Tryd.func80, Tryd.ntmps80
  go_wp2_with (fail)
  all_goals go_ret
  all_goals go_light
  all_goals exact ⟨ret_bool (by rw [← ByteArray.toList_eq]; simp [nat_beq0, *]), (Below.refl _ _).alloc (Nat.le_refl _) _⟩

set_option maxRecDepth 100000 in
set_option maxHeartbeats 1000000 in
theorem sound5no (i : Int) (t : ByteArray) (n m : Nat) (w : World) (A K : Option Addr) (c d : Nat) (hne : ¬ m = n) :
    Calls Tryd.prog 80 #[.agg #[.int .i64 5, .int .i64 i, .string t, .slice A n c, .slice K m d]] w fun e w' => e = .returned (.bool false) ∧ Below w.heap.size w w' := by
  have hf : ((m : Int) == (n : Int)) = false := by rw [nat_beq]; simpa using hne
  rcases Nat.eq_zero_or_pos n with rfl | hn
  all_goals clear hne
  · have hf' : ((m : Int) == 0) = false := hf
    clear hf
    go_enter Tryd.func80, Tryd.ntmps80
    go_wp2_with fail
    all_goals go_ret
    all_goals go_light
    all_goals exact ⟨rfl, (Below.refl _ _).alloc (Nat.le_refl _) _⟩
  have hn' : ¬ n = 0 := by omega
  clear hn
  go_enter Tryd.func80, Tryd.ntmps80
  go_wp2_with fail
  all_goals go_ret
  all_goals go_light
  all_goals exact ⟨rfl, (Below.refl _ _).alloc (Nat.le_refl _) _⟩

set_option maxRecDepth 100000 in
set_option maxHeartbeats 1000000 in
theorem sound5yes (i : Int) (t : ByteArray) (m : Nat) (r : Bool) (w : World) (A K : Option Addr) (c d : Nat) (h0 : m = 0 ∨ ¬ m = 0)
    (h : Hid (∀ W : World, (∀ b o, b < w.heap.size → W.cell? ⟨b, o, none⟩ = w.cell? ⟨b, o, none⟩) → Calls Tryd.prog 100 #[.slice K m d] W fun e w' => e = .returned (.bool r) ∧ w' = W)) :
    Calls Tryd.prog 80 #[.agg #[.int .i64 5, .int .i64 i, .string t, .slice A m c, .slice K m d]] w fun e w' => e = .returned (.bool (i == 0 && t.data.toList.isEmpty && r)) ∧ Below w.heap.size w w' := by
  rcases h0 with rfl | h0
  all_goals go_enter Tryd.func80, Tryd.ntmps80
  all_goals go_wp2_with (go_at_call 100; refine (h.out _ (by intro b o hb; exact World.cell?_alloc_lt _ _ _ hb)).mono ?_; rintro e w' ⟨rfl, rfl⟩)
  all_goals go_ret
  all_goals go_light
  all_goals exact ⟨ret_bool (by rw [← ByteArray.toList_eq]; simp [nat_beq0, *]), (Below.refl _ _).alloc (Nat.le_refl _) _⟩

set_option maxRecDepth 100000 in
set_option maxHeartbeats 1000000 in
theorem soundelse (k i : Int) (t : ByteArray) (n m : Nat) (w : World) (A K : Option Addr) (c d : Nat) (h0 : ¬ k = 0) (h1 : ¬ k = 1) (h2 : ¬ k = 2) (h3 : ¬ k = 3) (h4 : ¬ k = 4) (h5 : ¬ k = 5) :
    Calls Tryd.prog 80 #[.agg #[.int .i64 k, .int .i64 i, .string t, .slice A n c, .slice K m d]] w fun e w' => e = .returned (.bool false) ∧ Below w.heap.size w w' := by
  go_enter Tryd.func80, Tryd.ntmps80
  go_wp2_with fail
  all_goals go_ret
  all_goals go_light
  all_goals exact ⟨rfl, (Below.refl _ _).alloc (Nat.le_refl _) _⟩

theorem sound_any (x : V) (w : World) (A K : Option Addr) (c d : Nat) (h : Lies w w.heap.size x A c K d) :
    Calls Tryd.prog 80 #[.agg #[.int .i64 x.kind, .int .i64 x.int, .string x.text, .slice A x.items.length c, .slice K x.keys.length d]] w fun e w' => e = .returned (.bool x.sound) ∧ Below w.heap.size w w' := by
  obtain ⟨k, i, t, items, keys⟩ := x
  simp only [V.kind, V.int, V.text, V.items, V.keys, V.sound]
  by_cases h0 : k = 0
  · subst h0; exact sound0 _ _ _ _ _ _ _ _ _
  rw [if_neg h0]
  by_cases h1 : k = 1
  · subst h1; exact sound1 _ _ _ _ _ _ _ _ _
  rw [if_neg h1]
  by_cases h2 : k = 2
  · subst h2; exact sound2 _ _ _ _ _ _ _ _ _
  rw [if_neg h2]
  by_cases h3 : k = 3
  · subst h3; exact sound3 _ _ _ _ _ _ _ _ _ h.text
  rw [if_neg h3]
  by_cases h4 : k = 4
  · subst h4; exact sound4 _ _ _ _ _ _ _ _ _
  rw [if_neg h4]
  by_cases h5 : k = 5
  · subst h5
    rw [if_pos rfl]
    by_cases hl : keys.length = items.length
    · rw [← hl]
      have P := sound5yes i t keys.length (risingB keys keys.length) w A K c d (by omega) (Lib.hid fun W hW => proper_any keys W w.heap.size K d (h.keys.keep hW (Nat.le_refl _)))
      refine P.mono ?_
      rintro e w' ⟨rfl, hb⟩
      exact ⟨ret_bool (by simp), hb⟩
    · refine (sound5no i t items.length keys.length w A K c d hl).mono ?_
      rintro e w' ⟨rfl, hb⟩
      exact ⟨ret_bool (by simp [hl]), hb⟩
  rw [if_neg h5]
  exact soundelse _ _ _ _ _ _ _ _ _ _ h0 h1 h2 h3 h4 h5
end Go.Proofs.YtoddlacfbeckiaaDoor
