/- Small functions of package value: bytes and ints. -/
import Derived.Test.YtchadlbhdcpojaaGreatDoorRows
import Derived.Test.YtchadlbhdcpojaaGreatDoorMa
import Derived.WalkKit
import Derived.WalkSpells
import Derived.WalkLawsBesides
import Derived.Lib.Hide
import Derived.Deep.QuietTactic
import Derived.BigQuiet
import Derived.Deep.Light
namespace Go.Proofs.YtchadlbhdcpojaaGreatDoor
open Go.RowKit

theorem ret_bool {a b : Bool} (h : a = b) : Ending.returned (.bool a) = .returned (.bool b) := by rw [h]
theorem ret_int {k : IntKind} {a b : Int} (h : a = b) : Ending.returned (.int k a) = .returned (.int k b) := by rw [h]

set_option maxHeartbeats 400000 in
theorem visible_any (c : UInt8) (w : World) :
    Calls Tryz.prog 93 #[.int .u8 c.toNat] w fun e w' => e = .returned (.bool (visB c)) ∧ w' = w := by
  go_enter Tryz.func93, Tryz.ntmps93
  go_wp2
  all_goals go_ret
  all_goals refine ⟨ret_bool ?_, rfl⟩
  · have h : 32 ≤ (c.toNat : Int) := by assumption
    have h' : 32 ≤ c.toNat := by omega
    simp [visB, h']; omega
  · have h : (c.toNat : Int) < 32 := by assumption
    have h' : ¬ 32 ≤ c.toNat := by omega
    simp [visB, h']

theorem take_next (s : ByteArray) (k : Nat) (h : k < s.size) : s.data.toList.take (k + 1) = s.data.toList.take k ++ [s[k]] := by
  have hl : s.data.toList[k]? = some s[k] := List.getElem?_eq_getElem (by simpa using h)
  apply List.ext_getElem?
  intro i
  rcases Nat.lt_trichotomy i k with hi | hi | hi
  · rw [List.getElem?_append_left (by rw [List.length_take]; simp; omega), List.getElem?_take, List.getElem?_take, if_pos (by omega), if_pos hi]
  · subst hi
    rw [List.getElem?_append_right (by rw [List.length_take]; omega), List.getElem?_take, if_pos (by omega), hl, show i - (s.data.toList.take i).length = 0 by rw [List.length_take]; simp; omega]
    rfl
  · rw [List.getElem?_take, if_neg (by omega), List.getElem?_append_right (by rw [List.length_take]; omega), List.getElem?_eq_none]
    rw [List.length_take]
    have : k < s.data.toList.length := by simpa using h
    simp only [List.length_singleton]
    omega

theorem all_take_false {l : List UInt8} {p : UInt8 → Bool} {k : Nat} (h : (l.take k).all p = false) : l.all p = false := by
  rw [List.all_eq_false] at h ⊢
  obtain ⟨x, hx, hp⟩ := h
  exact ⟨x, List.mem_of_mem_take hx, hp⟩

set_option maxHeartbeats 400000 in
theorem printable_any (s : ByteArray) (w : World) (hs : s.size ≤ maxLen) :
    Calls Tryz.prog 80 #[.string s] w fun e w' => e = .returned (.bool (textB s.data.toList)) ∧ w' = w := by
  unfold maxLen at hs
  have hsz : s.data.toList.length = s.size := by simp
  have HL := Lib.hid hsz
  clear hsz
  by_cases hlen : s.size ≤ 100
  · go_enter Tryz.func80, Tryz.ntmps80
    go_wp2
    go_loop [9] (fun i => ∃ k : Nat, k ≤ s.size ∧ i = .int .i64 k ∧ (s.data.toList.take k).all visB = true) (fun i => s.size - (intOf i).toNat)
    case atStart => exact ⟨0, Nat.zero_le _, rfl, by simp⟩
    case round =>
      obtain ⟨k, hk, rfl, hall⟩ := hrel
      have HA := Lib.hid hall
      clear hall
      by_cases hlt : k < s.size
      · have hts := Lib.hid (take_next s k hlt)
        go_wp2_with (go_at_call 93; refine (visible_any s[k] _).mono ?_; rintro e w' ⟨rfl, rfl⟩)
        · have h : (!visB s[k]) = true := by assumption
          go_ret
          refine ⟨ret_bool ?_, rfl⟩
          unfold textB
          rw [all_take_false (k := k + 1) (by rw [hts.out]; simp at h; simp [h])]; simp
        · have h : (!visB s[k]) = false := by assumption
          go_round
          case rel => exact ⟨k + 1, by omega, by go_num, by rw [hts.out, List.all_append, HA.out]; simp at h; simp [h]⟩
          case measure => simp [intOf]; omega
      · go_wp2
        go_ret
        exact ⟨ret_bool (by have h := HA.out; rw [List.take_of_length_le (by rw [HL.out]; omega)] at h; unfold textB; rw [h, HL.out]; simp [hlen]), rfl⟩
  · go_enter Tryz.func80, Tryz.ntmps80
    go_wp2
    go_ret
    exact ⟨ret_bool (by unfold textB; rw [HL.out]; simp [hlen]), rfl⟩

end Go.Proofs.YtchadlbhdcpojaaGreatDoor
/- The keys of an object; a value without its items. -/
namespace Go.Proofs.YtchadlbhdcpojaaGreatDoor
open Go.RowKit

set_option maxHeartbeats 400000 in
theorem within_any (n : Int) (w : World) :
    Calls Tryz.prog 79 #[.int .i64 n] w fun e w' => e = .returned (.bool (decide (-1000000000000 ≤ n) && decide (n ≤ 1000000000000))) ∧ w' = w := by
  go_enter Tryz.func79, Tryz.ntmps79
  go_wp2
  all_goals go_ret
  · have h : -1000000000000 ≤ n := by assumption
    exact ⟨ret_bool (by simp [h]), rfl⟩
  · have h : n < -1000000000000 := by assumption
    have h' : ¬ -1000000000000 ≤ n := by omega
    exact ⟨ret_bool (by simp [h']), rfl⟩

set_option maxHeartbeats 400000 in
theorem proper_any (keys : List ByteArray) (w : World) (B : Nat) (K : Option Addr) (d : Nat) (h : Strs w B K d keys) :
    Calls Tryz.prog 81 #[.slice K keys.length d] w fun e w' => e = .returned (.bool (risingB keys keys.length)) ∧ w' = w := by
  have hn : keys.length ≤ 9223372036854775807 := by have := h.1; have := h.2.1; unfold maxLen at *; omega
  obtain ⟨n, hnn⟩ : ∃ n, n = keys.length := ⟨_, rfl⟩
  rw [← hnn] at hn ⊢
  have HN := Lib.hid hnn
  clear hnn
  go_enter Tryz.func81, Tryz.ntmps81
  go_wp2
  go_loop [7] (fun i => ∃ k : Nat, k ≤ n ∧ i = .int .i64 k ∧ risingB keys k = true) (fun i => n - (intOf i).toNat)
  case atStart => exact ⟨0, Nat.zero_le _, rfl, by simp [risingB]⟩
  case round =>
    obtain ⟨k, hk, rfl, hall⟩ := hrel
    have HA := Lib.hid hall
    clear hall
    by_cases hlt : k < n
    · obtain ⟨b, o, rfl, hb, hc⟩ := h.at_ (k := k) (by rw [← HN.out]; exact hlt)
      obtain ⟨s, hs⟩ : ∃ s, keys[k]? = some s := ⟨_, List.getElem?_eq_getElem (by rw [← HN.out]; exact hlt)⟩
      obtain ⟨c0, m0⟩ := hc k s hs
      have HR := Lib.hid (risingB_succ keys k)
      have hg : keys.getD k ByteArray.empty = s := by simp [List.getD_eq_getElem?_getD, hs]
      have HG := Lib.hid hg
      clear hg
      by_cases hz : k = 0
      · subst hz
        simp only [Nat.add_zero] at c0
        go_wp2_with (go_at_call 80; refine (printable_any s _ m0).mono ?_; rintro e w' ⟨rfl, rfl⟩)
        · have h : textB s.data.toList = true := by assumption
          go_round
          case rel => exact ⟨1, by omega, by go_num, by rw [show (1 : Nat) = 0 + 1 from rfl, HR.out, HG.out, HA.out]; simp [h]⟩
          case measure => simp [intOf]; omega
        · have h : ¬textB s.data.toList = true := by assumption
          go_ret
          exact ⟨ret_bool (by rw [risingB_false (k := 0 + 1) (by rw [HR.out, HG.out]; simp [h]) hlt]), rfl⟩
      · obtain ⟨s', hs'⟩ : ∃ s, keys[k - 1]? = some s := ⟨_, List.getElem?_eq_getElem (by rw [← HN.out]; omega)⟩
        obtain ⟨c1, m1⟩ := hc (k - 1) s' hs'
        have HG' := Lib.hid (show keys.getD (k - 1) ByteArray.empty = s' by simp [List.getD_eq_getElem?_getD, hs'])
        clear hs hs' hc
        go_wp2_with (go_at_call 80; refine (printable_any s _ m0).mono ?_; rintro e w' ⟨rfl, rfl⟩)
        · have h1 : (!Op.bytesLess s'.toList s.toList) = true := by assumption
          go_ret
          exact ⟨ret_bool (by rw [risingB_false (k := k + 1) (by rw [HR.out, HG.out, HG'.out, ltB]; simp at h1; simp [h1, hz]) hlt]), rfl⟩
        · have h : textB s.data.toList = true := by assumption
          have h1 : (!Op.bytesLess s'.toList s.toList) = false := by assumption
          go_round
          case rel => exact ⟨k + 1, by omega, by go_num, by rw [HR.out, HG.out, HG'.out, HA.out, ltB]; simp at h1; simp [h, h1]⟩
          case measure => simp [intOf]; omega
        · have h : ¬textB s.data.toList = true := by assumption
          go_ret
          exact ⟨ret_bool (by rw [risingB_false (k := k + 1) (by rw [HR.out, HG.out]; simp [h]) hlt]), rfl⟩
    · go_wp2
      go_ret
      exact ⟨ret_bool (by rw [← show k = n by omega]; exact HA.out.symm), rfl⟩

end Go.Proofs.YtchadlbhdcpojaaGreatDoor
/- A value without its items. -/
namespace Go.Proofs.YtchadlbhdcpojaaGreatDoor
open Go.RowKit

theorem nat_beq (m n : Nat) : ((m : Int) == (n : Int)) = (m == n) := by rw [Bool.eq_iff_iff]; simp; omega
theorem nat_beq0 (m : Nat) : ((m : Int) == 0) = (m == 0) := by rw [Bool.eq_iff_iff]; simp

set_option maxRecDepth 100000 in
set_option maxHeartbeats 1000000 in
theorem sound0 (i : Int) (t : ByteArray) (n m : Nat) (w : World) (A K : Option Addr) (c d : Nat) :
    Calls Tryz.prog 63 #[.agg #[.int .i64 0, .int .i64 i, .string t, .slice A n c, .slice K m d]] w fun e w' => e = .returned (.bool (i == 0 && t.data.toList.isEmpty && (n == 0 && m == 0))) ∧ Below w.heap.size w w' := by
  go_enter Tryz.func63, Tryz.ntmps63
  go_wp2_with (fail)
  all_goals go_ret
  all_goals go_light
  all_goals exact ⟨ret_bool (by rw [← ByteArray.toList_eq]; simp [nat_beq0, *]), (Below.refl _ _).alloc (Nat.le_refl _) _⟩

set_option maxRecDepth 100000 in
set_option maxHeartbeats 1000000 in
theorem sound1 (i : Int) (t : ByteArray) (n m : Nat) (w : World) (A K : Option Addr) (c d : Nat) :
    Calls Tryz.prog 63 #[.agg #[.int .i64 1, .int .i64 i, .string t, .slice A n c, .slice K m d]] w fun e w' => e = .returned (.bool ((i == 0 || i == 1) && t.data.toList.isEmpty && (n == 0 && m == 0))) ∧ Below w.heap.size w w' := by
  go_enter Tryz.func63, Tryz.ntmps63
  go_wp2_with (fail)
  all_goals go_ret
  all_goals go_light
  all_goals exact ⟨ret_bool (by rw [← ByteArray.toList_eq]; simp [nat_beq0, *]), (Below.refl _ _).alloc (Nat.le_refl _) _⟩

set_option maxRecDepth 100000 in
set_option maxHeartbeats 1000000 in
theorem sound2 (i : Int) (t : ByteArray) (n m : Nat) (w : World) (A K : Option Addr) (c d : Nat) :
    Calls Tryz.prog 63 #[.agg #[.int .i64 2, .int .i64 i, .string t, .slice A n c, .slice K m d]] w fun e w' => e = .returned (.bool ((decide (-1000000000000 ≤ i) && decide (i ≤ 1000000000000)) && t.data.toList.isEmpty && (n == 0 && m == 0))) ∧ Below w.heap.size w w' := by
  go_enter Tryz.func63, Tryz.ntmps63
  go_wp2_with (go_at_call 79; refine (within_any i _).mono ?_; rintro e w' ⟨rfl, rfl⟩)
  all_goals go_ret
  all_goals go_light
  all_goals exact ⟨ret_bool (by rw [← ByteArray.toList_eq]; simp [nat_beq0, *]), (Below.refl _ _).alloc (Nat.le_refl _) _⟩

set_option maxRecDepth 100000 in
set_option maxHeartbeats 1000000 in
theorem sound3 (i : Int) (t : ByteArray) (n m : Nat) (w : World) (A K : Option Addr) (c d : Nat) (ht : t.size ≤ maxLen) :
    Calls Tryz.prog 63 #[.agg #[.int .i64 3, .int .i64 i, .string t, .slice A n c, .slice K m d]] w fun e w' => e = .returned (.bool (i == 0 && textB t.data.toList && (n == 0 && m == 0))) ∧ Below w.heap.size w w' := by
  go_enter Tryz.func63, Tryz.ntmps63
  go_wp2_with (go_at_call 80; refine (printable_any t _ ht).mono ?_; rintro e w' ⟨rfl, rfl⟩)
  all_goals go_ret
  all_goals go_light
  all_goals exact ⟨ret_bool (by simp [nat_beq0, *]), (Below.refl _ _).alloc (Nat.le_refl _) _⟩

set_option maxRecDepth 100000 in
set_option maxHeartbeats 1000000 in
theorem sound4 (i : Int) (t : ByteArray) (n m : Nat) (w : World) (A K : Option Addr) (c d : Nat) :
    Calls Tryz.prog 63 #[.agg #[.int .i64 4, .int .i64 i, .string t, .slice A n c, .slice K m d]] w fun e w' => e = .returned (.bool (i == 0 && t.data.toList.isEmpty && m == 0)) ∧ Below w.heap.size w w' := by
  go_enter Tryz.func63, Tryz.ntmps63
  go_wp2_with (fail)
  all_goals go_ret
  all_goals go_light
  all_goals exact ⟨ret_bool (by rw [← ByteArray.toList_eq]; simp [nat_beq0, *]), (Below.refl _ _).alloc (Nat.le_refl _) _⟩

set_option maxRecDepth 100000 in
set_option maxHeartbeats 1000000 in
theorem sound5no (i : Int) (t : ByteArray) (n m : Nat) (w : World) (A K : Option Addr) (c d : Nat) (hne : ¬ m = n) :
    Calls Tryz.prog 63 #[.agg #[.int .i64 5, .int .i64 i, .string t, .slice A n c, .slice K m d]] w fun e w' => e = .returned (.bool false) ∧ Below w.heap.size w w' := by
  have hf : ((m : Int) == (n : Int)) = false := by rw [nat_beq]; simpa using hne
  rcases Nat.eq_zero_or_pos n with rfl | hn
  all_goals clear hne
  · have hf' : ((m : Int) == 0) = false := hf
    clear hf
    go_enter Tryz.func63, Tryz.ntmps63
    go_wp2_with fail
    all_goals go_ret
    all_goals go_light
    all_goals exact ⟨rfl, (Below.refl _ _).alloc (Nat.le_refl _) _⟩
  have hn' : ¬ n = 0 := by omega
  clear hn
  go_enter Tryz.func63, Tryz.ntmps63
  go_wp2_with fail
  all_goals go_ret
  all_goals go_light
  all_goals exact ⟨rfl, (Below.refl _ _).alloc (Nat.le_refl _) _⟩

set_option maxRecDepth 100000 in
set_option maxHeartbeats 1000000 in
theorem sound5yes (i : Int) (t : ByteArray) (m : Nat) (r : Bool) (w : World) (A K : Option Addr) (c d : Nat) (h0 : m = 0 ∨ ¬ m = 0)
    (h : Hid (∀ W : World, (∀ b o, b < w.heap.size → W.cell? ⟨b, o, none⟩ = w.cell? ⟨b, o, none⟩) → Calls Tryz.prog 81 #[.slice K m d] W fun e w' => e = .returned (.bool r) ∧ w' = W)) :
    Calls Tryz.prog 63 #[.agg #[.int .i64 5, .int .i64 i, .string t, .slice A m c, .slice K m d]] w fun e w' => e = .returned (.bool (i == 0 && t.data.toList.isEmpty && r)) ∧ Below w.heap.size w w' := by
  rcases h0 with rfl | h0
  all_goals go_enter Tryz.func63, Tryz.ntmps63
  all_goals go_wp2_with (go_at_call 81; refine (h.out _ (by intro b o hb; exact World.cell?_alloc_lt _ _ _ hb)).mono ?_; rintro e w' ⟨rfl, rfl⟩)
  all_goals go_ret
  all_goals go_light
  all_goals exact ⟨ret_bool (by rw [← ByteArray.toList_eq]; simp [*]), (Below.refl _ _).alloc (Nat.le_refl _) _⟩

set_option maxRecDepth 100000 in
set_option maxHeartbeats 1000000 in
theorem soundelse (k i : Int) (t : ByteArray) (n m : Nat) (w : World) (A K : Option Addr) (c d : Nat) (h0 : ¬ k = 0) (h1 : ¬ k = 1) (h2 : ¬ k = 2) (h3 : ¬ k = 3) (h4 : ¬ k = 4) (h5 : ¬ k = 5) :
    Calls Tryz.prog 63 #[.agg #[.int .i64 k, .int .i64 i, .string t, .slice A n c, .slice K m d]] w fun e w' => e = .returned (.bool false) ∧ Below w.heap.size w w' := by
  go_enter Tryz.func63, Tryz.ntmps63
  go_wp2_with fail
  all_goals go_ret
  all_goals go_light
  all_goals exact ⟨rfl, (Below.refl _ _).alloc (Nat.le_refl _) _⟩

theorem sound_any (x : V) (w : World) (A K : Option Addr) (c d : Nat) (h : Lies w w.heap.size x A c K d) :
    Calls Tryz.prog 63 #[.agg #[.int .i64 x.kind, .int .i64 x.int, .string x.text, .slice A x.items.length c, .slice K x.keys.length d]] w fun e w' => e = .returned (.bool x.sound) ∧ Below w.heap.size w w' := by
  obtain ⟨k, i, t, items, keys⟩ := x
  simp only [V.kind, V.int, V.text, V.items, V.keys, V.sound]
  by_cases h0 : k = 0
  · subst h0; exact sound0 _ _ _ _ _ _ _ _ _
  rw [if_neg h0]
  by_cases h1 : k = 1
  · subst h1; exact sound1 _ _ _ _ _ _ _ _ _
  rw [if_neg h1]
  by_cases h2 : k = 2
  · subst h2; exact sound2 _ _ _ _ _ _ _ _ _
  rw [if_neg h2]
  by_cases h3 : k = 3
  · subst h3; exact sound3 _ _ _ _ _ _ _ _ _ h.text
  rw [if_neg h3]
  by_cases h4 : k = 4
  · subst h4; exact sound4 _ _ _ _ _ _ _ _ _
  rw [if_neg h4]
  by_cases h5 : k = 5
  · subst h5
    rw [if_pos rfl]
    by_cases hl : keys.length = items.length
    · rw [← hl]
      have P := sound5yes i t keys.length (risingB keys keys.length) w A K c d (by omega) (Lib.hid fun W hW => proper_any keys W w.heap.size K d (h.keys.keep hW (Nat.le_refl _)))
      refine P.mono ?_
      rintro e w' ⟨rfl, hb⟩
      exact ⟨ret_bool (by simp), hb⟩
    · refine (sound5no i t items.length keys.length w A K c d hl).mono ?_
      rintro e w' ⟨rfl, hb⟩
      exact ⟨ret_bool (by simp [hl]), hb⟩
  rw [if_neg h5]
  exact soundelse _ _ _ _ _ _ _ _ _ _ h0 h1 h2 h3 h4 h5
end Go.Proofs.YtchadlbhdcpojaaGreatDoor
