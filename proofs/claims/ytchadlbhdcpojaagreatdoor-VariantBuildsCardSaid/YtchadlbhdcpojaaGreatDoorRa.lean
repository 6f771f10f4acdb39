/- The definitions' side: texts; fields that are zero. -/
import Derived.Test.YtchadlbhdcpojaaGreatDoorWa
import Derived.Test.YtchadlbhdcpojaaGreatDoorMa
import Derived.Deep.QuietTactic
import Derived.BigQuiet
import Derived.Deep.CutBlock
import Derived.Deep.DeepCutAuto
import Derived.Deep.AppendLies
import Derived.Deep.RegionHeld3
namespace Go.Proofs.YtchadlbhdcpojaaGreatDoor
open Go.RowKit

theorem visB_lt {c : UInt8} (h : (c.toNat : Int) < 32) : visB c = false := by
  have h' : ¬ 32 ≤ c.toNat := by omega
  simp [visB, h']
theorem visB_gt {c : UInt8} (h : 126 < (c.toNat : Int)) : visB c = false := by
  have h' : ¬ c.toNat ≤ 126 := by omega
  simp [visB, h']
theorem visB_in {c : UInt8} (h : 32 ≤ (c.toNat : Int)) (h' : (c.toNat : Int) ≤ 126) : visB c = true := by
  simp [visB]; omega

set_option maxHeartbeats 400000 in
theorem isText_any (s : ByteArray) (w : World) (hs : s.size ≤ maxLen) :
    Calls Tryz.prog 35 #[.string s] w fun e w' => e = .returned (.bool (textB s.data.toList)) ∧ w' = w := by
  unfold maxLen at hs
  have hsz : s.data.toList.length = s.size := by simp
  have HL := Lib.hid hsz
  clear hsz
  by_cases hlen : s.size ≤ 100
  · go_enter Tryz.func35, Tryz.ntmps35
    go_wp2
    go_loop [3] (fun i => ∃ k : Nat, k ≤ s.size ∧ i = .int .i64 k ∧ (s.data.toList.take k).all visB = true) (fun i => s.size - (intOf i).toNat)
    case atStart => exact ⟨0, Nat.zero_le _, rfl, by simp⟩
    case round =>
      obtain ⟨k, hk, rfl, hall⟩ := hrel
      have HA := Lib.hid hall
      clear hall
      by_cases hlt : k < s.size
      · have hts := Lib.hid (take_next s k hlt)
        by_cases h1 : (s[k].toNat : Int) < 32
        · go_wp2
          go_ret
          refine ⟨ret_bool ?_, rfl⟩
          unfold textB
          rw [all_take_false (k := k + 1) (by rw [hts.out]; simp [visB_lt h1])]; simp
        by_cases h2 : 126 < (s[k].toNat : Int)
        · go_wp2
          go_ret
          refine ⟨ret_bool ?_, rfl⟩
          unfold textB
          rw [all_take_false (k := k + 1) (by rw [hts.out]; simp [visB_gt h2])]; simp
        have h1' : 32 ≤ (s[k].toNat : Int) := by omega
        have h2' : (s[k].toNat : Int) ≤ 126 := by omega
        clear h1 h2
        go_wp2
        go_round
        case rel => exact ⟨k + 1, by omega, by go_num, by rw [hts.out, List.all_append, HA.out]; simp [visB_in h1' h2']⟩
        case measure => simp [intOf]; omega
      · go_wp2
        go_ret
        exact ⟨ret_bool (by have h := HA.out; rw [List.take_of_length_le (by rw [HL.out]; omega)] at h; unfold textB; rw [h, HL.out]; simp [hlen]), rfl⟩
  · go_enter Tryz.func35, Tryz.ntmps35
    go_wp2
    go_ret
    exact ⟨ret_bool (by unfold textB; rw [HL.out]; simp [hlen]), rfl⟩

set_option maxHeartbeats 1000000 in
theorem plainN (k i : Int) (t : ByteArray) (n m : Nat) (w : World) (A K : Option Addr) (c d : Nat) :
    Calls Tryz.prog 55 #[.agg #[.int .i64 k, .int .i64 i, .string t, .slice A n c, .slice K m d], .bool false, .bool false, .bool false, .bool false] w fun e w' => e = .returned (.bool (i == 0 && t.data.toList.isEmpty && n == 0 && m == 0)) ∧ Below w.heap.size w w' := by
  go_enter Tryz.func55, Tryz.ntmps55
  go_wp2_with fail
  all_goals go_ret
  all_goals go_light
  all_goals exact ⟨ret_bool (by (try rw [← ByteArray.toList_eq]); simp [nat_beq0, *]), (Below.refl _ _).alloc (Nat.le_refl _) _⟩

set_option maxHeartbeats 1000000 in
theorem plainI (k i : Int) (t : ByteArray) (n m : Nat) (w : World) (A K : Option Addr) (c d : Nat) :
    Calls Tryz.prog 55 #[.agg #[.int .i64 k, .int .i64 i, .string t, .slice A n c, .slice K m d], .bool true, .bool false, .bool false, .bool false] w fun e w' => e = .returned (.bool (t.data.toList.isEmpty && n == 0 && m == 0)) ∧ Below w.heap.size w w' := by
  go_enter Tryz.func55, Tryz.ntmps55
  go_wp2_with fail
  all_goals go_ret
  all_goals go_light
  all_goals exact ⟨ret_bool (by (try rw [← ByteArray.toList_eq]); simp [nat_beq0, *]), (Below.refl _ _).alloc (Nat.le_refl _) _⟩

set_option maxHeartbeats 1000000 in
theorem plainT (k i : Int) (t : ByteArray) (n m : Nat) (w : World) (A K : Option Addr) (c d : Nat) :
    Calls Tryz.prog 55 #[.agg #[.int .i64 k, .int .i64 i, .string t, .slice A n c, .slice K m d], .bool false, .bool true, .bool false, .bool false] w fun e w' => e = .returned (.bool (i == 0 && n == 0 && m == 0)) ∧ Below w.heap.size w w' := by
  go_enter Tryz.func55, Tryz.ntmps55
  go_wp2_with fail
  all_goals go_ret
  all_goals go_light
  all_goals exact ⟨ret_bool (by (try rw [← ByteArray.toList_eq]); simp [nat_beq0, *]), (Below.refl _ _).alloc (Nat.le_refl _) _⟩

set_option maxHeartbeats 1000000 in
theorem plainL (k i : Int) (t : ByteArray) (n m : Nat) (w : World) (A K : Option Addr) (c d : Nat) :
    Calls Tryz.prog 55 #[.agg #[.int .i64 k, .int .i64 i, .string t, .slice A n c, .slice K m d], .bool false, .bool false, .bool true, .bool false] w fun e w' => e = .returned (.bool (i == 0 && t.data.toList.isEmpty && m == 0)) ∧ Below w.heap.size w w' := by
  go_enter Tryz.func55, Tryz.ntmps55
  go_wp2_with fail
  all_goals go_ret
  all_goals go_light
  all_goals exact ⟨ret_bool (by (try rw [← ByteArray.toList_eq]); simp [nat_beq0, *]), (Below.refl _ _).alloc (Nat.le_refl _) _⟩

set_option maxHeartbeats 1000000 in
theorem plainO (k i : Int) (t : ByteArray) (n m : Nat) (w : World) (A K : Option Addr) (c d : Nat) :
    Calls Tryz.prog 55 #[.agg #[.int .i64 k, .int .i64 i, .string t, .slice A n c, .slice K m d], .bool false, .bool false, .bool true, .bool true] w fun e w' => e = .returned (.bool (i == 0 && t.data.toList.isEmpty)) ∧ Below w.heap.size w w' := by
  go_enter Tryz.func55, Tryz.ntmps55
  go_wp2_with fail
  all_goals go_ret
  all_goals go_light
  all_goals exact ⟨ret_bool (by (try rw [← ByteArray.toList_eq]); simp [*]), (Below.refl _ _).alloc (Nat.le_refl _) _⟩

end Go.Proofs.YtchadlbhdcpojaaGreatDoor
/- The definitions' count of nodes. -/
namespace Go.Proofs.YtchadlbhdcpojaaGreatDoor
open Go.RowKit

def nodesR (x : V) (L : Nat) : Nat := if x.fits 60 L then x.nodes else 61
def NodesPost (x : V) (L : Nat) (w : World) (e : Ending) (w' : World) : Prop :=
  e = .returned (.int .i64 (nodesR x L)) ∧ Below w.heap.size w w'

theorem nodesR_unsound {x : V} (h : x.sound = false) (L : Nat) : nodesR x L = 61 := by
  obtain ⟨k, i, t, items, keys⟩ := x
  unfold nodesR V.fits
  rw [V.ok, h]; rfl
theorem nodesR_zero (x : V) : nodesR x 0 = 61 := by
  have := x.depth_pos
  unfold nodesR V.fits
  rw [if_neg (by simp; omega)]
theorem V.length_le (l : List V) : l.length ≤ V.nodesL l := by
  induction l with
  | nil => simp
  | cons x r ih => have := x.nodes_pos; simp [V.nodesL]; omega
theorem nodesR_many (k i : Int) (t : ByteArray) (items : List V) (keys : List ByteArray) (L : Nat) (h : 60 < items.length) : nodesR (.mk k i t items keys) L = 61 := by
  have := V.length_le items
  unfold nodesR V.fits
  rw [V.nodes, if_neg (by simp; omega)]

structure NodesAt (items : List V) (L k p : Nat) : Prop where
  pos : 1 ≤ L
  eq : p = 1 + V.nodesL (items.take k)
  ok : V.okL (items.take k) = true
  depth : V.depthL (items.take k) + 1 ≤ L
theorem NodesAt.start (items : List V) (L : Nat) (h : 1 ≤ L) : NodesAt items L 0 1 := ⟨h, by simp [V.nodesL], by simp [V.okL], by simpa [V.depthL] using h⟩
theorem nodesR_le (x : V) (L : Nat) : nodesR x L ≤ 61 := by
  unfold nodesR V.fits
  split
  · rename_i h; simp at h; omega
  · omega
theorem nodesR_no {x : V} {L : Nat} (h : x.fits 60 L = false) : nodesR x L = 61 := by unfold nodesR; rw [h]; rfl
theorem fits_mk (k i : Int) (t : ByteArray) (items : List V) (keys : List ByteArray) (n L : Nat) :
    V.fits (.mk k i t items keys) n L = (V.sound (.mk k i t items keys) && V.okL items && decide (V.nodesL items + 1 ≤ n) && decide (V.depthL items + 1 ≤ L)) := by
  unfold V.fits; rw [V.ok, V.nodes, V.depth]
theorem fits_item {k i : Int} {t : ByteArray} {items : List V} {keys : List ByteArray} {n L j : Nat} {y : V} (hy : items[j]? = some y) (h : V.fits (.mk k i t items keys) n L = true) : y.fits n (L - 1) = true := by
  rw [fits_mk] at h
  simp only [Bool.and_eq_true, decide_eq_true_eq] at h
  obtain ⟨⟨⟨_, h1⟩, h2⟩, h3⟩ := h
  have hm := List.mem_of_getElem? hy
  have a := V.nodes_mem hm
  have b := V.depth_mem hm
  unfold V.fits
  rw [V.okL_mem h1 hm]
  simp
  omega
theorem NodesAt.stop {k i : Int} {t : ByteArray} {items : List V} {keys : List ByteArray} {L j p r : Nat} {y : V} (h : NodesAt items L j p) (hy : items[j]? = some y) (hr : r = nodesR y (L - 1)) (hb : 60 < p + r) : nodesR (.mk k i t items keys) L = 61 := by
  cases hf : V.fits (.mk k i t items keys) 60 L
  · exact nodesR_no hf
  · exfalso
    have hi := fits_item hy hf
    unfold nodesR at hr
    rw [hi, if_pos rfl] at hr
    rw [fits_mk] at hf
    simp only [Bool.and_eq_true, decide_eq_true_eq] at hf
    have a := V.nodesL_take_le items (j + 1)
    rw [V.nodesL_take_succ hy] at a
    have := h.eq
    omega
theorem NodesAt.next {items : List V} {L j p r : Nat} {y : V} (h : NodesAt items L j p) (hy : items[j]? = some y) (hr : r = nodesR y (L - 1)) (hb : p + r ≤ 60) : NodesAt items L (j + 1) (p + r) := by
  have hp := h.eq
  cases hf : y.fits 60 (L - 1)
  · rw [nodesR_no hf] at hr; omega
  · unfold nodesR at hr
    rw [hf, if_pos rfl] at hr
    unfold V.fits at hf
    simp only [Bool.and_eq_true, decide_eq_true_eq] at hf
    have := h.pos
    have := h.depth
    exact ⟨h.pos, by rw [V.nodesL_take_succ hy]; omega, by rw [V.okL_take_succ hy, h.ok, hf.1.1]; rfl, by rw [V.depthL_take_succ hy]; omega⟩
theorem NodesAt.last {k i : Int} {t : ByteArray} {items : List V} {keys : List ByteArray} {L j p : Nat} (h : NodesAt items L j p) (hj : items.length ≤ j) (hs : V.sound (.mk k i t items keys) = true) (hp : p ≤ 60) : nodesR (.mk k i t items keys) L = p := by
  have h1 := h.eq
  have h2 := h.ok
  have h3 := h.depth
  rw [List.take_of_length_le hj] at h1 h2 h3
  unfold nodesR
  rw [fits_mk, hs, h2, V.nodes, if_pos (by simp; omega)]
  omega

set_option maxRecDepth 100000 in
set_option maxHeartbeats 1000000 in
theorem nodes_none (k i : Int) (t : ByteArray) (n m : Nat) (w : World) (A K : Option Addr) (c d : Nat) (q : Int) (h : q = 0 ∨ 0 < q ∧ 60 < n) :
    Calls Tryz.prog 36 #[.agg #[.int .i64 k, .int .i64 i, .string t, .slice A n c, .slice K m d], .int .i64 q] w fun e w' => e = .returned (.int .i64 61) ∧ Below w.heap.size w w' := by
  rcases h with rfl | ⟨h, h'⟩
  all_goals go_enter Tryz.func36, Tryz.ntmps36
  all_goals go_wp2_with fail
  all_goals go_ret
  all_goals exact ⟨rfl, (Below.refl _ _).alloc (Nat.le_refl _) _⟩

set_option maxRecDepth 100000 in
set_option maxHeartbeats 4000000 in
theorem nodes_any (N : Nat) : ∀ (x : V) (w : World) (A K : Option Addr) (c d L : Nat), x.nodes ≤ N → Lies w w.heap.size x A c K d → L ≤ 6 → ∀ q : Int, q = (L : Int) →
    Calls Tryz.prog 36 #[.agg #[.int .i64 x.kind, .int .i64 x.int, .string x.text, .slice A x.items.length c, .slice K x.keys.length d], .int .i64 q] w (NodesPost x L w) := by
  induction N with
  | zero => intro x w A K c d L hx; have := x.nodes_pos; omega
  | succ N ih =>
    intro x w A K c d L hx hlies hL6 q hq
    subst hq
    obtain ⟨k, i, t, items, keys⟩ := x
    simp only [V.kind, V.int, V.text, V.items, V.keys]
    by_cases hL : L = 0
    · subst hL
      refine (nodes_none k i t items.length keys.length w A K c d 0 (.inl rfl)).mono ?_
      rintro e w' ⟨rfl, hb⟩
      exact ⟨by rw [nodesR_zero]; rfl, hb⟩
    by_cases hm : 60 < items.length
    · refine (nodes_none k i t items.length keys.length w A K c d L (.inr ⟨by omega, hm⟩)).mono ?_
      rintro e w' ⟨rfl, hb⟩
      exact ⟨by rw [nodesR_many _ _ _ _ _ _ hm]; rfl, hb⟩
    rw [V.nodes] at hx
    have hL1 : 1 ≤ (L : Int) := by omega
    obtain ⟨n, hn⟩ : ∃ n, n = items.length := ⟨_, rfl⟩
    have HN := Lib.hid hn
    rw [← hn] at hm ⊢
    clear hn
    obtain ⟨m, hmm⟩ : ∃ m, m = keys.length := ⟨_, rfl⟩
    have HM := Lib.hid hmm
    rw [← hmm]
    clear hmm
    have HL := Lib.hid hlies
    clear hlies
    obtain ⟨W1, hW1⟩ : ∃ W1, W1 = w.alloc (.cells #[.int .i64 k, .int .i64 i, .string t, .slice A n c, .slice K m d] 27) := ⟨_, rfl⟩
    go_enter Tryz.func36, Tryz.ntmps36
    go_upto_block 0 with fail
    go_cut [] from 6 to 145 (fun wc => Hid (V.sound (.mk k i t items keys) = true) ∧ Below (w.heap.size + 1) (w.alloc (.cells #[.int .i64 k, .int .i64 i, .string t, .slice A n c, .slice K m d] 27)) wc)
    case first =>
      by_cases h0 : k = 0
      · subst h0
        obtain ⟨r, hr⟩ : ∃ r, r = (i == 0 && t.data.toList.isEmpty && n == 0 && m == 0) := ⟨_, rfl⟩
        have hs : V.sound (.mk 0 i t items keys) = (r) := by rw [hr]; simp [V.sound, HN.out, HM.out, Bool.and_assoc, Bool.and_comm, Bool.and_left_comm]
        have HP0 := fun W => plainN 0 i t n m W A K c d
        rw [← hr] at HP0
        have HP := Lib.hid HP0
        clear hr HP0
        cases r
        all_goals have HS := Lib.hid hs
        all_goals clear hs
        all_goals go_wp2_with fail
        all_goals refine (HP.out _).mono ?_
        all_goals rintro e w' ⟨rfl, hb⟩
        all_goals have hc := bcell hb
        all_goals have hf := bfro hb
        all_goals have hz := hb.size
        all_goals simp only [World.size_alloc] at hz
        all_goals go_wp2_with fail
        · go_ret
          go_light
          exact ⟨by rw [nodesR_unsound HS.out]; rfl, ((Below.refl _ _).alloc (Nat.le_refl _) _).trans (hb.mono (by simp))⟩
        · go_meet
          case rel => exact ⟨HS, hb.mono (by simp)⟩
      by_cases h1 : k = 1
      · subst h1
        obtain ⟨r, hr⟩ : ∃ r, r = (t.data.toList.isEmpty && n == 0 && m == 0) := ⟨_, rfl⟩
        have hs : V.sound (.mk 1 i t items keys) = ((i == 0 || i == 1) && r) := by rw [hr]; simp [V.sound, HN.out, HM.out, Bool.and_assoc, Bool.and_comm, Bool.and_left_comm]
        have HP0 := fun W => plainI 1 i t n m W A K c d
        rw [← hr] at HP0
        have HP := Lib.hid HP0
        clear hr HP0
        cases r
        · have HS := Lib.hid (show V.sound (.mk 1 i t items keys) = false by rw [hs]; simp)
          clear hs
          all_goals go_wp2_with fail
          all_goals refine (HP.out _).mono ?_
          all_goals rintro e w' ⟨rfl, hb⟩
          all_goals have hc := bcell hb
          all_goals have hf := bfro hb
          all_goals have hz := hb.size
          all_goals simp only [World.size_alloc] at hz
          all_goals go_wp2_with fail
          go_ret
          go_light
          exact ⟨by rw [nodesR_unsound HS.out]; rfl, ((Below.refl _ _).alloc (Nat.le_refl _) _).trans (hb.mono (by simp))⟩
        by_cases e0 : i = 0
        · subst e0
          have HS := Lib.hid (show V.sound (.mk 1 0 t items keys) = true by rw [hs]; simp)
          clear hs
          all_goals go_wp2_with fail
          all_goals refine (HP.out _).mono ?_
          all_goals rintro e w' ⟨rfl, hb⟩
          all_goals have hc := bcell hb
          all_goals have hf := bfro hb
          all_goals have hz := hb.size
          all_goals simp only [World.size_alloc] at hz
          all_goals go_wp2_with fail
          go_meet
          case rel => exact ⟨HS, hb.mono (by simp)⟩
        by_cases e1 : i = 1
        · subst e1
          have HS := Lib.hid (show V.sound (.mk 1 1 t items keys) = true by rw [hs]; simp)
          clear hs
          all_goals go_wp2_with fail
          all_goals refine (HP.out _).mono ?_
          all_goals rintro e w' ⟨rfl, hb⟩
          all_goals have hc := bcell hb
          all_goals have hf := bfro hb
          all_goals have hz := hb.size
          all_goals simp only [World.size_alloc] at hz
          all_goals go_wp2_with fail
          go_meet
          case rel => exact ⟨HS, hb.mono (by simp)⟩
        · have HS := Lib.hid (show V.sound (.mk 1 i t items keys) = false by rw [hs]; simp [e0, e1])
          clear hs
          have e0' : (i != 0) = true := by simpa using e0
          have e1' : (i != 1) = true := by simpa using e1
          clear e0 e1
          all_goals go_wp2_with fail
          all_goals refine (HP.out _).mono ?_
          all_goals rintro e w' ⟨rfl, hb⟩
          all_goals have hc := bcell hb
          all_goals have hf := bfro hb
          all_goals have hz := hb.size
          all_goals simp only [World.size_alloc] at hz
          all_goals go_wp2_with fail
          go_ret
          go_light
          exact ⟨by rw [nodesR_unsound HS.out]; rfl, ((Below.refl _ _).alloc (Nat.le_refl _) _).trans (hb.mono (by simp))⟩
      by_cases h2 : k = 2
      · subst h2
        obtain ⟨r, hr⟩ : ∃ r, r = (t.data.toList.isEmpty && n == 0 && m == 0) := ⟨_, rfl⟩
        have hs : V.sound (.mk 2 i t items keys) = ((decide (-1000000000000 ≤ i) && decide (i ≤ 1000000000000)) && r) := by rw [hr]; simp [V.sound, HN.out, HM.out, Bool.and_assoc, Bool.and_comm, Bool.and_left_comm]
        have HP0 := fun W => plainI 2 i t n m W A K c d
        rw [← hr] at HP0
        have HP := Lib.hid HP0
        clear hr HP0
        cases r
        · have HS := Lib.hid (show V.sound (.mk 2 i t items keys) = false by rw [hs]; simp)
          clear hs
          all_goals go_wp2_with fail
          all_goals refine (HP.out _).mono ?_
          all_goals rintro e w' ⟨rfl, hb⟩
          all_goals have hc := bcell hb
          all_goals have hf := bfro hb
          all_goals have hz := hb.size
          all_goals simp only [World.size_alloc] at hz
          all_goals go_wp2_with fail
          go_ret
          go_light
          exact ⟨by rw [nodesR_unsound HS.out]; rfl, ((Below.refl _ _).alloc (Nat.le_refl _) _).trans (hb.mono (by simp))⟩
        by_cases e0 : 1000000000000 < i
        · have HS := Lib.hid (show V.sound (.mk 2 i t items keys) = false by rw [hs]; simp; omega)
          clear hs
          all_goals go_wp2_with fail
          all_goals refine (HP.out _).mono ?_
          all_goals rintro e w' ⟨rfl, hb⟩
          all_goals have hc := bcell hb
          all_goals have hf := bfro hb
          all_goals have hz := hb.size
          all_goals simp only [World.size_alloc] at hz
          all_goals go_wp2_with fail
          go_ret
          go_light
          exact ⟨by rw [nodesR_unsound HS.out]; rfl, ((Below.refl _ _).alloc (Nat.le_refl _) _).trans (hb.mono (by simp))⟩
        by_cases e1 : i < -1000000000000
        · have HS := Lib.hid (show V.sound (.mk 2 i t items keys) = false by rw [hs]; simp; omega)
          clear hs
          all_goals go_wp2_with fail
          all_goals refine (HP.out _).mono ?_
          all_goals rintro e w' ⟨rfl, hb⟩
          all_goals have hc := bcell hb
          all_goals have hf := bfro hb
          all_goals have hz := hb.size
          all_goals simp only [World.size_alloc] at hz
          all_goals go_wp2_with fail
          go_ret
          go_light
          exact ⟨by rw [nodesR_unsound HS.out]; rfl, ((Below.refl _ _).alloc (Nat.le_refl _) _).trans (hb.mono (by simp))⟩
        · have HS := Lib.hid (show V.sound (.mk 2 i t items keys) = true by rw [hs]; simp; omega)
          clear hs
          all_goals go_wp2_with fail
          all_goals refine (HP.out _).mono ?_
          all_goals rintro e w' ⟨rfl, hb⟩
          all_goals have hc := bcell hb
          all_goals have hf := bfro hb
          all_goals have hz := hb.size
          all_goals simp only [World.size_alloc] at hz
          all_goals go_wp2_with fail
          go_meet
          case rel => exact ⟨HS, hb.mono (by simp)⟩
      by_cases h3 : k = 3
      · subst h3
        obtain ⟨r, hr⟩ : ∃ r, r = (i == 0 && n == 0 && m == 0) := ⟨_, rfl⟩
        have hs : V.sound (.mk 3 i t items keys) = (textB t.data.toList && r) := by rw [hr]; simp [V.sound, HN.out, HM.out, Bool.and_assoc, Bool.and_comm, Bool.and_left_comm]
        have HP0 := fun W => plainT 3 i t n m W A K c d
        rw [← hr] at HP0
        have HP := Lib.hid HP0
        clear hr HP0
        cases r
        · have HS := Lib.hid (show V.sound (.mk 3 i t items keys) = false by rw [hs]; simp)
          clear hs
          all_goals go_wp2_with fail
          all_goals refine (HP.out _).mono ?_
          all_goals rintro e w' ⟨rfl, hb⟩
          all_goals have hc := bcell hb
          all_goals have hf := bfro hb
          all_goals have hz := hb.size
          all_goals simp only [World.size_alloc] at hz
          all_goals go_wp2_with fail
          go_ret
          go_light
          exact ⟨by rw [nodesR_unsound HS.out]; rfl, ((Below.refl _ _).alloc (Nat.le_refl _) _).trans (hb.mono (by simp))⟩
        have HI0 := fun W => isText_any t W HL.out.text
        cases hx : textB t.data.toList
        all_goals rw [hx] at hs HI0
        all_goals have HS := Lib.hid hs
        all_goals have HI := Lib.hid HI0
        all_goals clear hs hx HI0
        all_goals go_wp2_with fail
        all_goals refine (HP.out _).mono ?_
        all_goals rintro e w' ⟨rfl, hb⟩
        all_goals have hc := bcell hb
        all_goals have hf := bfro hb
        all_goals have hz := hb.size
        all_goals simp only [World.size_alloc] at hz
        all_goals go_wp2_with fail
        all_goals refine (HI.out _).mono ?_
        all_goals rintro e w' ⟨rfl, rfl⟩
        all_goals go_wp2_with fail
        · go_ret
          go_light
          exact ⟨by rw [nodesR_unsound HS.out]; rfl, ((Below.refl _ _).alloc (Nat.le_refl _) _).trans (hb.mono (by simp))⟩
        · go_meet
          case rel => exact ⟨HS, hb.mono (by simp)⟩
      by_cases h4 : k = 4
      · subst h4
        obtain ⟨r, hr⟩ : ∃ r, r = (i == 0 && t.data.toList.isEmpty && m == 0) := ⟨_, rfl⟩
        have hs : V.sound (.mk 4 i t items keys) = (r) := by rw [hr]; simp [V.sound, HM.out, Bool.and_assoc, Bool.and_comm]
        have HP0 := fun W => plainL 4 i t n m W A K c d
        rw [← hr] at HP0
        have HP := Lib.hid HP0
        clear hr HP0
        cases r
        all_goals have HS := Lib.hid hs
        all_goals clear hs
        all_goals go_wp2_with fail
        all_goals refine (HP.out _).mono ?_
        all_goals rintro e w' ⟨rfl, hb⟩
        all_goals have hc := bcell hb
        all_goals have hf := bfro hb
        all_goals have hz := hb.size
        all_goals simp only [World.size_alloc] at hz
        all_goals go_wp2_with fail
        · go_ret
          go_light
          exact ⟨by rw [nodesR_unsound HS.out]; rfl, ((Below.refl _ _).alloc (Nat.le_refl _) _).trans (hb.mono (by simp))⟩
        · go_meet
          case rel => exact ⟨HS, hb.mono (by simp)⟩
      by_cases h5 : k = 5
      · subst h5
        obtain ⟨r, hr⟩ : ∃ r, r = (i == 0 && t.data.toList.isEmpty) := ⟨_, rfl⟩
        have hs : V.sound (.mk 5 i t items keys) = (r && m == n && risingB keys m) := by rw [hr]; simp [V.sound, HN.out, HM.out]
        have HP0 := fun W => plainO 5 i t n m W A K c d
        rw [← hr] at HP0
        have HP := Lib.hid HP0
        clear hr HP0
        cases r
        · have HS := Lib.hid (show V.sound (.mk 5 i t items keys) = false by rw [hs]; simp)
          clear hs
          all_goals go_wp2_with fail
          all_goals refine (HP.out _).mono ?_
          all_goals rintro e w' ⟨rfl, hb⟩
          all_goals have hc := bcell hb
          all_goals have hf := bfro hb
          all_goals have hz := hb.size
          all_goals simp only [World.size_alloc] at hz
          all_goals go_wp2_with fail
          go_ret
          go_light
          exact ⟨by rw [nodesR_unsound HS.out]; rfl, ((Below.refl _ _).alloc (Nat.le_refl _) _).trans (hb.mono (by simp))⟩
        by_cases hmn : m = n
        · subst hmn
          have HSE := Lib.hid hs
          clear hs
          go_wp2_with fail
          refine (HP.out _).mono ?_
          rintro e w' ⟨rfl, hb⟩
          have hc := bcell hb
          have hf := bfro hb
          have hz := hb.size
          simp only [World.size_alloc] at hz
          go_wp2_with fail
          have h0 : Below (w.heap.size + 1) (w.alloc (.cells #[.int .i64 5, .int .i64 i, .string t, .slice A m c, .slice K m d] 27)) w' := hb.mono (by simp)
          have H0 := Lib.hid h0
          clear hc hf hz hb h0
          go_loopw [6] (fun j wr => ∃ k : Nat, k ≤ m ∧ j = .int .i64 k ∧ Hid (risingB keys k = true) ∧ Hid (Below (w.heap.size + 1) (w.alloc (.cells #[.int .i64 5, .int .i64 i, .string t, .slice A m c, .slice K m d] 27)) wr)) (fun j _ => m - (intOf j).toNat)
          case atStart => exact ⟨0, Nat.zero_le _, rfl, by simp [risingB, Hid], H0⟩
          case round =>
            obtain ⟨k, hk, rfl, HA, HW⟩ := hrel
            have hlen : m ≤ 9223372036854775807 := by have := HL.out.keys.1; have := HL.out.keys.2.1; unfold maxLen at *; have := HM.out; omega
            have hc := bcell HW.out
            by_cases hlt : k < m
            · have hlt' : k < keys.length := by rw [← HM.out]; exact hlt
              have hkr := HL.out.keys.keep (w' := wr) (B' := w.heap.size) (fun b o hb => (hc b o (by omega)).trans (World.cell?_alloc_lt _ _ _ hb)) (Nat.le_refl _)
              obtain ⟨b, o, rfl, hb, hcell⟩ := hkr.at_ (k := k) hlt'
              obtain ⟨s, hs⟩ : ∃ s, keys[k]? = some s := ⟨_, List.getElem?_eq_getElem hlt'⟩
              obtain ⟨c0, m0⟩ := hcell k s hs
              have HR := Lib.hid (risingB_succ keys k)
              have HG := Lib.hid (show keys.getD k ByteArray.empty = s by simp [List.getD_eq_getElem?_getD, hs])
              have HI0 := fun W => isText_any s W m0
              have HI := Lib.hid HI0
              have hbox : wr.cell? ⟨w.heap.size, 4, none⟩ = some (.slice (some ⟨b, o, none⟩) m d) := (hc w.heap.size 4 (by omega)).trans (by simp [go_sem])
              clear hc
              have hk0 : 0 ≤ (k : Int) := by omega
              have hk1 : (k : Int) < m := by omega
              by_cases hz : k = 0
              · subst hz
                simp only [Nat.add_zero] at c0
                clear hs hcell hkr hlt' HI0 m0
                cases hx : textB s.data.toList
                all_goals rw [hx] at HI
                all_goals have HX := Lib.hid hx
                all_goals clear hx
                all_goals go_wp2_with fail
                all_goals go_quiet ((go_at_call 35; exact Calls.quiet_of_same (HI.out _)))
                all_goals go_wp2_with fail
                · go_ret
                  go_light
                  exact ⟨by rw [nodesR_unsound (by rw [HSE.out, risingB_false (k := 0 + 1) (by rw [HR.out, HG.out, HX.out]; simp) hlt]; simp)]; rfl, below_drewN (((Below.refl _ _).alloc (Nat.le_refl _) _).trans (HW.out.mono (by omega))) _⟩
                · go_roundw
                  case rel => exact ⟨1, by omega, by go_num, Lib.hid (by rw [show (1 : Nat) = 0 + 1 from rfl, HR.out, HG.out, HX.out, HA.out]; simp), Lib.hid (below_drewN HW.out _)⟩
                  case measure => simp [intOf]; omega
              · have hk2 : (0 : Int) < k := by omega
                have hw1 : IntKind.i64.wrap ((k : Int) - 1) = (k : Int) - 1 := IntWalk.i64_in _ (by omega)
                have hw2 : ((k : Int) - 1).toNat = k - 1 := by omega
                have hw3 : 0 ≤ (k : Int) - 1 := by omega
                have hw4 : (k : Int) - 1 < m := by omega
                obtain ⟨s', hs'⟩ : ∃ s, keys[k - 1]? = some s := ⟨_, List.getElem?_eq_getElem (by omega)⟩
                obtain ⟨c1, m1⟩ := hcell (k - 1) s' hs'
                have HG' := Lib.hid (show keys.getD (k - 1) ByteArray.empty = s' by simp [List.getD_eq_getElem?_getD, hs'])
                clear hs hs' hcell hkr hlt' HI0 m0 m1
                cases hx : textB s.data.toList
                all_goals rw [hx] at HI
                all_goals have HX := Lib.hid hx
                all_goals clear hx
                all_goals go_wp2_with fail
                all_goals have hd : decide (0 < k) = true := by simp; omega
                all_goals go_quiet ((go_at_call 35; exact Calls.quiet_of_same (HI.out _)))
                all_goals go_wp2_with fail
                · go_ret
                  go_light
                  exact ⟨by rw [nodesR_unsound (by rw [HSE.out, risingB_false (k := k + 1) (by rw [HR.out, HG.out, HX.out]; simp) hlt]; simp)]; rfl, below_drewN (((Below.refl _ _).alloc (Nat.le_refl _) _).trans (HW.out.mono (by omega))) _⟩
                · have h1 : (!Op.bytesLess s'.toList s.toList) = true := by assumption
                  go_ret
                  go_light
                  exact ⟨by rw [nodesR_unsound (by rw [HSE.out, risingB_false (k := k + 1) (by rw [HR.out, HG.out, HG'.out, HX.out, ltB]; simp at h1; simp [h1]; omega) hlt]; simp)]; rfl, below_drewN (((Below.refl _ _).alloc (Nat.le_refl _) _).trans (HW.out.mono (by omega))) _⟩
                · have h1 : (!Op.bytesLess s'.toList s.toList) = false := by assumption
                  go_roundw
                  case rel => exact ⟨k + 1, by omega, by go_num, Lib.hid (by rw [HR.out, HG.out, HG'.out, HX.out, HA.out, ltB]; simp at h1; simp [h1]), Lib.hid (below_drewN HW.out _)⟩
                  case measure => simp [intOf]; omega
            · go_wp2_with fail
              go_meet
              case rel => exact ⟨Lib.hid (by rw [HSE.out, show m = k by omega, HA.out]; simp), HW.out⟩
        · have HS := Lib.hid (show V.sound (.mk 5 i t items keys) = false by rw [hs]; simp [hmn])
          have hmn' : ((m : Int) != (n : Int)) = true := by rw [bne_iff_ne]; omega
          clear hs hmn
          all_goals go_wp2_with fail
          all_goals refine (HP.out _).mono ?_
          all_goals rintro e w' ⟨rfl, hb⟩
          all_goals have hc := bcell hb
          all_goals have hf := bfro hb
          all_goals have hz := hb.size
          all_goals simp only [World.size_alloc] at hz
          all_goals go_wp2_with fail
          go_ret
          go_light
          exact ⟨by rw [nodesR_unsound HS.out]; rfl, ((Below.refl _ _).alloc (Nat.le_refl _) _).trans (hb.mono (by simp))⟩
      go_wp2_with fail
      go_ret
      go_light
      exact ⟨by rw [nodesR_unsound (by simp [V.sound, *])]; rfl, (Below.refl _ _).alloc (Nat.le_refl _) _⟩
    case rest =>
      obtain ⟨HS, hb0⟩ := hcut
      have H0 := Lib.hid hb0
      have hlen : n ≤ 9223372036854775807 := by omega
      clear hb0
      go_wp2_with fail
      go_loopw [7, 8] (fun a j wr => ∃ k' p : Nat, k' ≤ n ∧ p ≤ 60 ∧ j = .int .i64 k' ∧ a = .int .i64 p ∧ Hid (NodesAt items L k' p) ∧ Hid (Below (w.heap.size + 1) (w.alloc (.cells #[.int .i64 k, .int .i64 i, .string t, .slice A n c, .slice K m d] 27)) wr)) (fun _ j _ => n - (intOf j).toNat)
      case atStart => exact ⟨0, 1, Nat.zero_le _, by omega, rfl, rfl, Lib.hid (NodesAt.start items L (by omega)), H0⟩
      case round =>
        obtain ⟨k', p, hk, hp, rfl, rfl, HA, HW⟩ := hrel
        have hc := bcell HW.out
        have hbox : wr.cell? ⟨w.heap.size, 3, none⟩ = some (.slice A n c) := (hc w.heap.size 3 (by omega)).trans (by simp [go_sem])
        by_cases hlt : k' < n
        · have hlt' : k' < items.length := by rw [← HN.out]; exact hlt
          have hkr := HL.out.items.keep (w' := wr) (B' := wr.heap.size) (fun b o hb => (hc b o (by omega)).trans (World.cell?_alloc_lt _ _ _ hb)) (by have := HW.out.size; simp at this; omega)
          obtain ⟨b, o, rfl, hbB, hfrom⟩ := hkr.at_ (k := k') hlt'
          obtain ⟨y, hy⟩ : ∃ y, items[k']? = some y := ⟨_, List.getElem?_eq_getElem hlt'⟩
          obtain ⟨Ay, cy, Ky, dy, e0, e1, e2, e3, e4, hly⟩ := hfrom.at_ hy
          have hyn : y.nodes ≤ N := by have := V.nodes_mem (List.mem_of_getElem? hy); omega
          have IH0 := ih y wr Ay Ky cy dy (L - 1) hyn hly (by omega) ((L : Int) - 1) (by omega)
          have IH := Lib.hid IH0
          have HY := Lib.hid hy
          clear hc hlt' hkr hfrom hy hly hyn IH0
          have hz := HW.out.size
          simp only [World.size_alloc] at hz
          obtain ⟨r, hr⟩ : ∃ r, r = nodesR y (L - 1) := ⟨_, rfl⟩
          have HR := Lib.hid hr
          have hr61 : r ≤ 61 := by rw [hr]; exact nodesR_le _ _
          unfold NodesPost at IH
          rw [← hr] at IH
          clear hr
          by_cases hbig : 60 < p + r
          all_goals go_wp2_with fail
          all_goals refine IH.out.mono ?_
          all_goals rintro e w1 ⟨rfl, hb1⟩
          all_goals have HB := Lib.hid hb1
          all_goals clear hb1
          all_goals go_wp2_with fail
          · go_ret
            go_light
            exact ⟨by rw [HA.out.stop HY.out HR.out hbig]; rfl, ((Below.refl _ _).alloc (Nat.le_refl _) _).trans ((HW.out.mono (by omega)).trans (HB.out.mono (by omega)))⟩
          · go_roundw
            case rel => exact ⟨k' + 1, p + r, by omega, by omega, by go_num, by go_num, Lib.hid (HA.out.next HY.out HR.out (by omega)), Lib.hid (HW.out.trans (HB.out.mono (by omega)))⟩
            case measure => simp [intOf]; omega
        · clear hc
          go_wp2_with fail
          go_ret
          go_light
          exact ⟨by rw [HA.out.last (by have := HN.out; omega) HS.out (by omega)]; rfl, ((Below.refl _ _).alloc (Nat.le_refl _) _).trans (HW.out.mono (by omega))⟩
end Go.Proofs.YtchadlbhdcpojaaGreatDoor
/- The definitions' Valid, depth, Size. -/
namespace Go.Proofs.YtchadlbhdcpojaaGreatDoor
open Go.RowKit

theorem nodesR_valid (x : V) : (nodesR x 6 ≤ 60) ↔ x.valid = true := by
  unfold nodesR V.valid
  split
  · rename_i h
    have := h
    unfold V.fits at this
    simp at this
    simp [h]; omega
  · rename_i h; simp [h]

set_option maxHeartbeats 1000000 in
theorem refValid_any (x : V) (w : World) (A K : Option Addr) (c d : Nat) (h : Lies w w.heap.size x A c K d) :
    Calls Tryz.prog 22 #[.agg #[.int .i64 x.kind, .int .i64 x.int, .string x.text, .slice A x.items.length c, .slice K x.keys.length d]] w fun e w' => e = .returned (.bool x.valid) ∧ Below w.heap.size w w' := by
  have HS := Lib.hid fun W (hW : Below w.heap.size w W) => nodes_any x.nodes x W A K c d 6 (Nat.le_refl _) (Lies.keep (bcell hW) hW.size _ h) (by omega) 6 rfl
  go_enter Tryz.func22, Tryz.ntmps22
  go_wp2_with fail
  refine (HS.out _ ((Below.refl _ _).alloc (Nat.le_refl _) _)).mono ?_
  rintro e w' ⟨rfl, hb⟩
  go_wp2_with fail
  go_ret
  go_light
  refine ⟨ret_bool ?_, ((Below.refl _ _).alloc (Nat.le_refl _) _).trans (hb.mono (by simp))⟩
  have := nodesR_valid x
  cases hv : x.valid
  · rw [hv] at this; simp at this; simp; omega
  · rw [hv] at this; simp at this; simp; omega

end Go.Proofs.YtchadlbhdcpojaaGreatDoor
