/- Reading: where a key belongs. -/
import Derived.Test.YtchadlbhdcpojaaDoorWr
import Derived.Shelf.Spec.SearchS
import Derived.Test.YtchadlbhdcpojaaDoorWq
import Derived.Deep.RegionHeld3
import Derived.Deep.DrawnRows
namespace Go.Proofs.YtchadlbhdcpojaaDoor
open Go.RowKit

set_option maxHeartbeats 1000000 in
theorem nan_cmp (x : ByteArray) (w : World) : Calls Tryd.prog 64 #[.string x] w fun e w' => e = .returned (.bool false) ∧ w' = w := by
  go_enter Tryd.func64, Tryd.ntmps64
  go_wp2
  go_ret
  exact ⟨by simp, rfl⟩
set_option maxHeartbeats 1000000 in
theorem nan_slices (x : ByteArray) (w : World) : Calls Tryd.prog 49 #[.string x] w fun e w' => e = .returned (.bool false) ∧ w' = w := by
  go_enter Tryd.func49, Tryd.ntmps49
  go_wp2
  go_ret
  exact ⟨by simp, rfl⟩
set_option maxHeartbeats 1000000 in
theorem less_string (x y : ByteArray) (w : World) : Calls Tryd.prog 48 #[.string x, .string y] w fun e w' => e = .returned (.bool (Op.bytesLess x.toList y.toList)) ∧ w' = w := by
  go_enter Tryd.func48, Tryd.ntmps48
  go_wp2_with (go_at_call 64; refine (nan_cmp _ _).mono ?_; rintro e w' ⟨rfl, rfl⟩)
  go_ret
  exact ⟨rfl, rfl⟩

set_option maxHeartbeats 4000000 in
set_option maxRecDepth 1000000 in
theorem search_row (b n c : Nat) (keys : List ByteArray) (x : ByteArray) (w : World) (hl : keys.length = n) (hbig : n ≤ 10000) (hr : Rising keys) (hc : ∀ (j : Nat) (y : ByteArray), keys[j]? = some y → w.cell? ⟨b, j, none⟩ = some (.string y)) :
    Calls Tryd.prog 36 #[.slice (some ⟨b, 0, none⟩) n c, .string x] w fun e w' => e = .returned (.tuple #[.int .i64 (posK x keys : Nat), .bool (hasK x keys)]) ∧ ∃ q, w' = w.drewN q := by
  have mixed : Tryd.prog.follows Departure.mixedOrders = true := by kernel_rfl
  obtain ⟨I, hI⟩ : ∃ I, posK x keys = I := ⟨_, rfl⟩
  have hIn : I ≤ n := by rw [← hI, ← hl]; exact posK_le x keys
  have hless : ∀ (t : Nat) (y : ByteArray), keys[t]? = some y → Op.bytesLess y.toList x.toList = decide (t < I) := by
    intro t y hy
    by_cases h : t < I
    · rw [decide_eq_true h]; exact posK_less x (by rw [hI]; exact h) hy
    · rw [decide_eq_false h]; exact posK_more x hr (by rw [hI]; omega) hy
  have hhas : hasK x keys = decide (keys[I]? = some x) := by
    rw [Bool.eq_iff_iff, hasK_iff, posK_here x hr, hI, decide_eq_true_iff]
  rw [hI, hhas]
  clear hhas hI hr
  have HL := Lib.hid hless
  clear hless
  go_enter Tryd.func36, Tryd.ntmps36
  go_wp2
  go_loopg [7, 8] n (fun g s7 s8 wr => ∃ lo hi q : Nat, s7 = .int .i64 lo ∧ s8 = .int .i64 hi ∧ lo ≤ I ∧ I ≤ hi ∧ hi ≤ n ∧ hi - lo ≤ g ∧ wr = w.drewN q)
  case atStart => exact ⟨0, n, 0, rfl, rfl, Nat.zero_le _, hIn, Nat.le_refl _, by omega, rfl⟩
  case round =>
    obtain ⟨lo, hi, q, rfl, rfl, hlo, hhi, hin, hg, rfl⟩ := hrel
    by_cases hlt : lo < hi
    · obtain ⟨y, hy⟩ : ∃ y, keys[(lo + hi) / 2]? = some y := ⟨_, List.getElem?_eq_getElem (by omega)⟩
      have cm : w.cell? ⟨b, (lo + hi) / 2, none⟩ = some (.string y) := hc _ _ hy
      have hyx := HL.out _ _ hy
      have HC := Lib.hid hc
      clear hc hy
      by_cases hm : (lo + hi) / 2 < I
      · rw [decide_eq_true hm] at hyx
        go_wp2_with (first | (go_at_call 48; refine (less_string _ _ _).mono ?_; rintro e w' ⟨rfl, rfl⟩) | (go_at_call 49; refine (nan_slices _ _).mono ?_; rintro e w' ⟨rfl, rfl⟩))
        go_roundg (hi - ((lo + hi) / 2 + 1))
        case measure => omega
        case rel => exact ⟨(lo + hi) / 2 + 1, hi, _, by rw [show ((lo : Int) + (hi : Int)) / 2 + 1 = (((lo + hi) / 2 + 1 : Nat) : Int) by omega], rfl, by omega, hhi, hin, Nat.le_refl _, rfl⟩
      · rw [decide_eq_false hm] at hyx
        go_wp2_with (first | (go_at_call 48; refine (less_string _ _ _).mono ?_; rintro e w' ⟨rfl, rfl⟩) | (go_at_call 49; refine (nan_slices _ _).mono ?_; rintro e w' ⟨rfl, rfl⟩))
        go_roundg ((lo + hi) / 2 - lo)
        case measure => omega
        case rel => exact ⟨lo, (lo + hi) / 2, _, rfl, by rw [show ((lo : Int) + (hi : Int)) / 2 = (((lo + hi) / 2 : Nat) : Int) by omega], hlo, by omega, by omega, Nat.le_refl _, rfl⟩
    · have e1 : lo = I := by omega
      have e2 : I = hi := by omega
      subst e1
      subst e2
      by_cases hn : lo < n
      · obtain ⟨y, hy⟩ : ∃ y, keys[lo]? = some y := ⟨_, List.getElem?_eq_getElem (by omega)⟩
        have cl : w.cell? ⟨b, lo, none⟩ = some (.string y) := hc _ _ hy
        have HC := Lib.hid hc
        clear hc
        have HK := Lib.hid hy
        by_cases hyx : y = x
        · subst hyx
          clear hy
          go_wp2_with (first | (go_at_call 48; refine (less_string _ _ _).mono ?_; rintro e w' ⟨rfl, rfl⟩) | (go_at_call 49; refine (nan_slices _ _).mono ?_; rintro e w' ⟨rfl, rfl⟩))
          go_ret2
          exact ⟨by rw [HK.out]; simp, _, rfl⟩
        · have hne : (y.toList == x.toList) = false := by
            rw [beq_eq_false_iff_ne]
            intro h
            rw [ByteArray.toList_eq, ByteArray.toList_eq] at h
            exact hyx (ByteArray.ext (Array.ext' h))
          clear hy
          go_wp2_with (first | (go_at_call 48; refine (less_string _ _ _).mono ?_; rintro e w' ⟨rfl, rfl⟩) | (go_at_call 49; refine (nan_slices _ _).mono ?_; rintro e w' ⟨rfl, rfl⟩))
          all_goals
            go_ret2
            exact ⟨by rw [HK.out]; simp [hyx], _, rfl⟩
      · have hnone : keys[lo]? = none := List.getElem?_eq_none (by omega)
        have HK := Lib.hid hnone
        clear hc hnone
        go_wp2_with (first | (go_at_call 48; refine (less_string _ _ _).mono ?_; rintro e w' ⟨rfl, rfl⟩) | (go_at_call 49; refine (nan_slices _ _).mono ?_; rintro e w' ⟨rfl, rfl⟩))
        go_ret2
        exact ⟨by rw [HK.out]; simp, _, rfl⟩
set_option maxHeartbeats 1000000 in
set_option maxRecDepth 1000000 in
theorem search_nil (a : Option Addr) (c : Nat) (x : ByteArray) (w : World) : Calls Tryd.prog 36 #[.slice a 0 c, .string x] w fun e w' => e = .returned (.tuple #[.int .i64 0, .bool false]) ∧ ∃ q, w' = w.drewN q := by
  have mixed : Tryd.prog.follows Departure.mixedOrders = true := by kernel_rfl
  go_enter Tryd.func36, Tryd.ntmps36
  go_wp2
  go_loop [7, 8] (fun s7 s8 => s7 = .int .i64 0 ∧ s8 = .int .i64 0) (fun _ _ => 0)
  case atStart => exact ⟨rfl, rfl⟩
  case round =>
    obtain ⟨rfl, rfl⟩ := hrel
    go_wp2
    go_ret2
    exact ⟨rfl, 0, rfl⟩
/-- In a row of the call's own. -/
theorem search_any (w : World) (base : Nat) (v : Value) (keys : List ByteArray) (x : ByteArray) (hr : Rising keys) (hn : keys.length ≤ 10000) (h : w.ownsRow base 9 1 v keys.length (keys.map .string)) :
    Calls Tryd.prog 36 #[v, .string x] w fun e w' => e = .returned (.tuple #[.int .i64 (posK x keys : Nat), .bool (hasK x keys)]) ∧ ∃ q, w' = w.drewN q := by
  have hc := fun g hg => World.ownsRow.cells h (g := g) hg
  obtain ⟨hl, ⟨rfl, h0⟩ | ⟨g, cap, cur, rfl, hB, hb, hn', hm, hs, ht⟩⟩ := h
  · have : keys = [] := List.length_eq_zero_iff.1 h0
    subst this
    exact search_nil none 0 x w
  · refine search_row g keys.length cap keys x w rfl hn hr fun j y hj => ?_
    have := hc g rfl j (.string y) (by rw [List.getElem?_map, hj]; rfl)
    rw [Addr.add_lit, Nat.zero_add] at this
    exact this
end Go.Proofs.YtchadlbhdcpojaaDoor
/- Reading: an object: how far it is read. -/
namespace Go.Proofs.YtchadlbhdcpojaaDoor
open Go.RowKit

theorem rows_one {P : Nat → Prop} {w : World} : ∀ {xs : List V} {css : List (List Value)}, RowsIn P w xs css → ∀ u ∈ css.flatten, u.oneCell' = true
  | [], [], _, u, h => by simp at h
  | _ :: _, _ :: _, h, u, hu => by
    obtain ⟨⟨A, c, K, d, rfl, _⟩, h2⟩ := h
    rw [List.flatten_cons, List.mem_append] at hu
    rcases hu with hu | hu
    · simp only [fieldsL, List.mem_cons, List.not_mem_nil, or_false] at hu
      rcases hu with rfl | rfl | rfl | rfl | rfl <;> rfl
    · exact rows_one h2 u hu
  | [], _ :: _, h, _, _ => h.elim
  | _ :: _, [], h, _, _ => h.elim
/-- Behind an insertion and the store of the new slice. -/
theorem put_done {w3 w1 : World} {N vb j size n i : Nat} {e t : TypeId} {v v' : Value} {xs cs : List Value} {cells : Array Value} (hp : Put w3 N e size v n i xs cs (.returned v') w1) (hv : ∀ b, v.ownBlock = some b → N ≤ b) (hb : BlockIs w3 vb t cells) (hvb : vb < N) (_hN : N ≤ w3.heap.size) :
    (w1.setCell ⟨vb, j, none⟩ v').ownsRow N e size v' (n + 1) (xs.take (i * size) ++ cs ++ xs.drop (i * size)) ∧ BlockIs (w1.setCell ⟨vb, j, none⟩ v') vb t (cells.setIfInBounds j v') ∧
      (∀ b, b < w3.heap.size → b ≠ vb → some b ≠ v.ownBlock → (w1.setCell ⟨vb, j, none⟩ v').heap[b]? = w3.heap[b]?) ∧ w3.heap.size ≤ (w1.setCell ⟨vb, j, none⟩ v').heap.size ∧ (w1.setCell ⟨vb, j, none⟩ v').os = w3.os ∧ (w1.setCell ⟨vb, j, none⟩ v').tape = w3.tape ∧ (w1.setCell ⟨vb, j, none⟩ v').output = w3.output ∧
      (∀ b, b < w3.heap.size → some b ≠ v.ownBlock → some b ≠ v'.ownBlock) := by
  obtain ⟨v'', he, hown, hg, hwh⟩ := hp
  cases he
  have hne : some vb ≠ v.ownBlock := fun e => by have := hv _ e.symm; omega
  have hne' : some vb ≠ v'.ownBlock := fun e => by have := (World.ownsRow.lt hown _ e.symm).1; omega
  refine ⟨own_set_far hown _ _ hne', (hb.grown hg hne).set_ j v', fun b h1 h2 h3 => ?_, ?_, hg.os, hg.tape, hg.output, fun b h1 h2 => row_where hwh h2 h1⟩
  · rw [Below.heap_setCell _ _ _ _ h2]; exact hg.block b h1 h3
  · simpa [World.setCell] using hg.size
theorem own_apart {w : World} {N N' e e' size size' n n' : Nat} {v v' : Value} {xs xs' : List Value} (h : w.ownsRow N e size v n xs) (h' : w.ownsRow N' e' size' v' n' xs') (he : e ≠ e') {b : Nat} (hb : v.ownBlock = some b) : some b ≠ v'.ownBlock := by
  obtain ⟨_, ⟨rfl, _⟩ | ⟨g, cap, cur, rfl, _, hg, _⟩⟩ := h
  · cases hb
  · obtain ⟨_, ⟨rfl, _⟩ | ⟨g', cap', cur', rfl, _, hg', _⟩⟩ := h'
    · simp [Value.ownBlock]
    · intro e1
      simp only [Value.ownBlock, Option.some.injEq] at hb e1
      subst hb
      subst e1
      rw [hg] at hg'
      injection hg' with hg'
      injection hg' with _ ht
      exact he ht

theorem ins_len {α : Type} (l : List α) (i : Nat) (x : α) (h : i ≤ l.length) : (l.take i ++ x :: l.drop i).length = l.length + 1 := by
  simp; omega
end Go.Proofs.YtchadlbhdcpojaaDoor
/- Reading: an object, walked. -/
namespace Go.Proofs.YtchadlbhdcpojaaDoor
open Go.RowKit

section
variable {w W : World} {g : Nat} {d : Int} {st : List ByteArray × List V} {n : Nat} {rowK rowI : Value} {css : List (List Value)}
end
theorem textP_100 : ∀ (f : Nat) {l acc t r : List UInt8}, l.length ≤ f → acc.length ≤ 100 → textP l acc = some (t, r) → t.length ≤ 100
  | 0, l, _, _, _, hf, _, h => by cases l with
    | nil => simp [textP] at h
    | cons => simp at hf
  | f + 1, [], _, _, _, _, _, h => by simp [textP] at h
  | f + 1, c :: l, acc, t, r, hf, ha, h => by
    rw [textP_cons] at h
    simp only [List.length_cons] at hf
    split at h
    · simp at h; rw [← h.1]; exact ha
    · split at h
      · cases l with
        | nil => simp at h
        | cons x q =>
          simp only [List.length_cons] at hf
          simp only [] at h
          split at h
          · rename_i hx
            exact textP_100 f (by omega) (by simp; omega) h
          · cases h
      · split at h
        · rename_i hx
          exact textP_100 f (by omega) (by simp; omega) h
        · cases h
theorem quotedP_100 {l t r : List UInt8} (h : quotedP l = some (t, r)) : t.length ≤ 100 := by
  cases l with
  | nil => simp [quotedP] at h
  | cons c l =>
    rw [quotedP] at h
    split at h
    · exact textP_100 _ (Nat.le_refl _) (by simp) h
    · cases h
attribute [local go_sem ↓] Go.wp_at_zero Go.wp_at_succ
end Go.Proofs.YtchadlbhdcpojaaDoor
/- Reading: an object, whole. -/
namespace Go.Proofs.YtchadlbhdcpojaaDoor
open Go.RowKit

theorem keys_from {w : World} {b : Nat} : ∀ {keys : List ByteArray} {o : Nat}, (∀ k ∈ keys, k.size ≤ maxLen) → (∀ (j : Nat) (v : Value), (keys.map Value.string)[j]? = some v → w.cell? ⟨b, o + j, none⟩ = some v) → StrsFrom w keys b o
  | [], _, _, _ => trivial
  | k :: r, o, hk, hc => ⟨hc 0 _ rfl, hk k (by simp), keys_from (fun x hx => hk x (by simp [hx])) fun j v hj => by
    have := hc (j + 1) v (by simpa using hj)
    rw [show o + 1 + j = o + (j + 1) by omega]; exact this⟩
end Go.Proofs.YtchadlbhdcpojaaDoor
