/- Reading: where a key belongs. -/
import Derived.Test.YtfiiaeomlmckfaaGreatDoorWr
import Derived.Shelf.Spec.SearchS
import Derived.Test.YtfiiaeomlmckfaaGreatDoorWq
import Derived.Deep.RegionHeld3
import Derived.Deep.DrawnRows
namespace Go.Proofs.YtfiiaeomlmckfaaGreatDoor
open Go.RowKit

set_option maxHeartbeats 1000000 in
theorem nan_cmp (x : ByteArray) (w : World) : Calls Tryz.prog 68 #[.string x] w fun e w' => e = .returned (.bool false) ∧ w' = w := by
  go_enter Tryz.func68, Tryz.ntmps68
  go_wp2
  go_ret
  exact ⟨by simp, rfl⟩
set_option maxHeartbeats 1000000 in
theorem nan_slices (x : ByteArray) (w : World) : Calls Tryz.prog 98 #[.string x] w fun e w' => e = .returned (.bool false) ∧ w' = w := by
  go_enter Tryz.func98, Tryz.ntmps98
  go_wp2
  go_ret
  exact ⟨by simp, rfl⟩
set_option maxHeartbeats 1000000 in
theorem less_string (x y : ByteArray) (w : World) : Calls Tryz.prog 97 #[.string x, .string y] w fun e w' => e = .returned (.bool (Op.bytesLess x.toList y.toList)) ∧ w' = w := by
  go_enter Tryz.func97, Tryz.ntmps97
  go_wp2_with (go_at_call 68; refine (nan_cmp _ _).mono ?_; rintro e w' ⟨rfl, rfl⟩)
  go_ret
  exact ⟨rfl, rfl⟩

set_option maxHeartbeats 4000000 in
set_option maxRecDepth 1000000 in
theorem search_row (b n c : Nat) (keys : List ByteArray) (x : ByteArray) (w : World) (hl : keys.length = n) (hbig : n ≤ 100) (hr : Rising keys) (hc : ∀ (j : Nat) (y : ByteArray), keys[j]? = some y → w.cell? ⟨b, j, none⟩ = some (.string y)) :
    Calls Tryz.prog 80 #[.slice (some ⟨b, 0, none⟩) n c, .string x] w fun e w' => e = .returned (.tuple #[.int .i64 (posK x keys : Nat), .bool (hasK x keys)]) ∧ ∃ q, w' = w.drewN q := by
  have mixed : Tryz.prog.follows Departure.mixedOrders = true := by kernel_rfl
  obtain ⟨I, hI⟩ : ∃ I, posK x keys = I := ⟨_, rfl⟩
  have hIn : I ≤ n := by rw [← hI, ← hl]; exact posK_le x keys
  have hless : ∀ (t : Nat) (y : ByteArray), keys[t]? = some y → Op.bytesLess y.toList x.toList = decide (t < I) := by
    intro t y hy
    by_cases h : t < I
    · rw [decide_eq_true h]; exact posK_less x (by rw [hI]; exact h) hy
    · rw [decide_eq_false h]; exact posK_more x hr (by rw [hI]; omega) hy
  have hhas : hasK x keys = decide (keys[I]? = some x) := by
    rw [Bool.eq_iff_iff, hasK_iff, posK_here x hr, hI, decide_eq_true_iff]
  rw [hI, hhas]
  clear hhas hI hr
  have HL := Lib.hid hless
  clear hless
  go_enter Tryz.func80, Tryz.ntmps80
  go_wp2
  go_loopg [7, 8] n (fun g s7 s8 wr => ∃ lo hi q : Nat, s7 = .int .i64 lo ∧ s8 = .int .i64 hi ∧ lo ≤ I ∧ I ≤ hi ∧ hi ≤ n ∧ hi - lo ≤ g ∧ wr = w.drewN q)
  case atStart => exact ⟨0, n, 0, rfl, rfl, Nat.zero_le _, hIn, Nat.le_refl _, by omega, rfl⟩
  case round =>
    obtain ⟨lo, hi, q, rfl, rfl, hlo, hhi, hin, hg, rfl⟩ := hrel
    by_cases hlt : lo < hi
    · obtain ⟨y, hy⟩ : ∃ y, keys[(lo + hi) / 2]? = some y := ⟨_, List.getElem?_eq_getElem (by omega)⟩
      have cm : w.cell? ⟨b, (lo + hi) / 2, none⟩ = some (.string y) := hc _ _ hy
      have hyx := HL.out _ _ hy
      have HC := Lib.hid hc
      clear hc hy
      by_cases hm : (lo + hi) / 2 < I
      · rw [decide_eq_true hm] at hyx
        go_wp2_with (first | (go_at_call 97; refine (less_string _ _ _).mono ?_; rintro e w' ⟨rfl, rfl⟩) | (go_at_call 98; refine (nan_slices _ _).mono ?_; rintro e w' ⟨rfl, rfl⟩))
        go_roundg (hi - ((lo + hi) / 2 + 1))
        case measure => omega
        case rel => exact ⟨(lo + hi) / 2 + 1, hi, _, by rw [show ((lo : Int) + (hi : Int)) / 2 + 1 = (((lo + hi) / 2 + 1 : Nat) : Int) by omega], rfl, by omega, hhi, hin, Nat.le_refl _, rfl⟩
      · rw [decide_eq_false hm] at hyx
        go_wp2_with (first | (go_at_call 97; refine (less_string _ _ _).mono ?_; rintro e w' ⟨rfl, rfl⟩) | (go_at_call 98; refine (nan_slices _ _).mono ?_; rintro e w' ⟨rfl, rfl⟩))
        go_roundg ((lo + hi) / 2 - lo)
        case measure => omega
        case rel => exact ⟨lo, (lo + hi) / 2, _, rfl, by rw [show ((lo : Int) + (hi : Int)) / 2 = (((lo + hi) / 2 : Nat) : Int) by omega], hlo, by omega, by omega, Nat.le_refl _, rfl⟩
    · have e1 : lo = I := by omega
      have e2 : I = hi := by omega
      subst e1
      subst e2
      by_cases hn : lo < n
      · obtain ⟨y, hy⟩ : ∃ y, keys[lo]? = some y := ⟨_, List.getElem?_eq_getElem (by omega)⟩
        have cl : w.cell? ⟨b, lo, none⟩ = some (.string y) := hc _ _ hy
        have HC := Lib.hid hc
        clear hc
        have HK := Lib.hid hy
        by_cases hyx : y = x
        · subst hyx
          clear hy
          go_wp2_with (first | (go_at_call 97; refine (less_string _ _ _).mono ?_; rintro e w' ⟨rfl, rfl⟩) | (go_at_call 98; refine (nan_slices _ _).mono ?_; rintro e w' ⟨rfl, rfl⟩))
          go_ret2
          exact ⟨by rw [HK.out]; simp, _, rfl⟩
        · have hne : (y.toList == x.toList) = false := by
            rw [beq_eq_false_iff_ne]
            intro h
            rw [ByteArray.toList_eq, ByteArray.toList_eq] at h
            exact hyx (ByteArray.ext (Array.ext' h))
          clear hy
          go_wp2_with (first | (go_at_call 97; refine (less_string _ _ _).mono ?_; rintro e w' ⟨rfl, rfl⟩) | (go_at_call 98; refine (nan_slices _ _).mono ?_; rintro e w' ⟨rfl, rfl⟩))
          all_goals
            go_ret2
            exact ⟨by rw [HK.out]; simp [hyx], _, rfl⟩
      · have hnone : keys[lo]? = none := List.getElem?_eq_none (by omega)
        have HK := Lib.hid hnone
        clear hc hnone
        go_wp2_with (first | (go_at_call 97; refine (less_string _ _ _).mono ?_; rintro e w' ⟨rfl, rfl⟩) | (go_at_call 98; refine (nan_slices _ _).mono ?_; rintro e w' ⟨rfl, rfl⟩))
        go_ret2
        exact ⟨by rw [HK.out]; simp, _, rfl⟩
set_option maxHeartbeats 1000000 in
set_option maxRecDepth 1000000 in
theorem search_nil (a : Option Addr) (c : Nat) (x : ByteArray) (w : World) : Calls Tryz.prog 80 #[.slice a 0 c, .string x] w fun e w' => e = .returned (.tuple #[.int .i64 0, .bool false]) ∧ ∃ q, w' = w.drewN q := by
  have mixed : Tryz.prog.follows Departure.mixedOrders = true := by kernel_rfl
  go_enter Tryz.func80, Tryz.ntmps80
  go_wp2
  go_loop [7, 8] (fun s7 s8 => s7 = .int .i64 0 ∧ s8 = .int .i64 0) (fun _ _ => 0)
  case atStart => exact ⟨rfl, rfl⟩
  case round =>
    obtain ⟨rfl, rfl⟩ := hrel
    go_wp2
    go_ret2
    exact ⟨rfl, 0, rfl⟩
/-- In a row of the call's own. -/
theorem search_any (w : World) (base : Nat) (v : Value) (keys : List ByteArray) (x : ByteArray) (hr : Rising keys) (hn : keys.length ≤ 100) (h : w.ownsRow base 9 1 v keys.length (keys.map .string)) :
    Calls Tryz.prog 80 #[v, .string x] w fun e w' => e = .returned (.tuple #[.int .i64 (posK x keys : Nat), .bool (hasK x keys)]) ∧ ∃ q, w' = w.drewN q := by
  have hc := fun g hg => World.ownsRow.cells h (g := g) hg
  obtain ⟨hl, ⟨rfl, h0⟩ | ⟨g, cap, cur, rfl, hB, hb, hn', hm, hs, ht⟩⟩ := h
  · have : keys = [] := List.length_eq_zero_iff.1 h0
    subst this
    exact search_nil none 0 x w
  · refine search_row g keys.length cap keys x w rfl hn hr fun j y hj => ?_
    have := hc g rfl j (.string y) (by rw [List.getElem?_map, hj]; rfl)
    rw [Addr.add_lit, Nat.zero_add] at this
    exact this
end Go.Proofs.YtfiiaeomlmckfaaGreatDoor
/- Reading: an object: how far it is read. -/
namespace Go.Proofs.YtfiiaeomlmckfaaGreatDoor
open Go.RowKit

theorem rows_one {P : Nat → Prop} {w : World} : ∀ {xs : List V} {css : List (List Value)}, RowsIn P w xs css → ∀ u ∈ css.flatten, u.oneCell' = true
  | [], [], _, u, h => by simp at h
  | _ :: _, _ :: _, h, u, hu => by
    obtain ⟨⟨A, c, K, d, rfl, _⟩, h2⟩ := h
    rw [List.flatten_cons, List.mem_append] at hu
    rcases hu with hu | hu
    · simp only [fieldsL, List.mem_cons, List.not_mem_nil, or_false] at hu
      rcases hu with rfl | rfl | rfl | rfl | rfl <;> rfl
    · exact rows_one h2 u hu
  | [], _ :: _, h, _, _ => h.elim
  | _ :: _, [], h, _, _ => h.elim
/-- Behind an insertion and the store of the new slice. -/
theorem put_done {w3 w1 : World} {N vb j size n i : Nat} {e t : TypeId} {v v' : Value} {xs cs : List Value} {cells : Array Value} (hp : Put w3 N e size v n i xs cs (.returned v') w1) (hv : ∀ b, v.ownBlock = some b → N ≤ b) (hb : BlockIs w3 vb t cells) (hvb : vb < N) (_hN : N ≤ w3.heap.size) :
    (w1.setCell ⟨vb, j, none⟩ v').ownsRow N e size v' (n + 1) (xs.take (i * size) ++ cs ++ xs.drop (i * size)) ∧ BlockIs (w1.setCell ⟨vb, j, none⟩ v') vb t (cells.setIfInBounds j v') ∧
      (∀ b, b < w3.heap.size → b ≠ vb → some b ≠ v.ownBlock → (w1.setCell ⟨vb, j, none⟩ v').heap[b]? = w3.heap[b]?) ∧ w3.heap.size ≤ (w1.setCell ⟨vb, j, none⟩ v').heap.size ∧ (w1.setCell ⟨vb, j, none⟩ v').os = w3.os ∧ (w1.setCell ⟨vb, j, none⟩ v').tape = w3.tape ∧ (w1.setCell ⟨vb, j, none⟩ v').output = w3.output ∧
      (∀ b, b < w3.heap.size → some b ≠ v.ownBlock → some b ≠ v'.ownBlock) := by
  obtain ⟨v'', he, hown, hg, hwh⟩ := hp
  cases he
  have hne : some vb ≠ v.ownBlock := fun e => by have := hv _ e.symm; omega
  have hne' : some vb ≠ v'.ownBlock := fun e => by have := (World.ownsRow.lt hown _ e.symm).1; omega
  refine ⟨own_set_far hown _ _ hne', (hb.grown hg hne).set_ j v', fun b h1 h2 h3 => ?_, ?_, hg.os, hg.tape, hg.output, fun b h1 h2 => row_where hwh h2 h1⟩
  · rw [Below.heap_setCell _ _ _ _ h2]; exact hg.block b h1 h3
  · simpa [World.setCell] using hg.size
theorem own_apart {w : World} {N N' e e' size size' n n' : Nat} {v v' : Value} {xs xs' : List Value} (h : w.ownsRow N e size v n xs) (h' : w.ownsRow N' e' size' v' n' xs') (he : e ≠ e') {b : Nat} (hb : v.ownBlock = some b) : some b ≠ v'.ownBlock := by
  obtain ⟨_, ⟨rfl, _⟩ | ⟨g, cap, cur, rfl, _, hg, _⟩⟩ := h
  · cases hb
  · obtain ⟨_, ⟨rfl, _⟩ | ⟨g', cap', cur', rfl, _, hg', _⟩⟩ := h'
    · simp [Value.ownBlock]
    · intro e1
      simp only [Value.ownBlock, Option.some.injEq] at hb e1
      subst hb
      subst e1
      rw [hg] at hg'
      injection hg' with hg'
      injection hg' with _ ht
      exact he ht

def OInvR (w : World) (g : Nat) (d : Int) (st : List ByteArray × List V) (n : Nat) (rowK rowI : Value) (css : List (List Value)) (W : World) : Prop :=
  w.grownBy W (some g) ∧ w.heap.size + 4 ≤ W.heap.size ∧ BlockIs W w.heap.size 60 #[.pointer (some ⟨g, 0, none⟩)] ∧ BlockIs W (w.heap.size + 1) 3 #[.int .i64 d] ∧ BlockIs W (w.heap.size + 2) 35 zeroF ∧ (st.2.length ≤ n ∧ st.1.length = st.2.length ∧ Rising st.1 ∧ ∀ k ∈ st.1, k.size ≤ maxLen) ∧
    BlockIs W (w.heap.size + 3) 35 #[.int .i64 5, .int .i64 0, .string ⟨#[]⟩, rowI, rowK] ∧ W.ownsRow (w.heap.size + 4) 9 1 rowK st.1.length (st.1.map .string) ∧ W.ownsRow (w.heap.size + 4) 35 5 rowI st.2.length css.flatten ∧ RowsIn (Out (w.heap.size + 4) [rowK.ownBlock, rowI.ownBlock] W) W st.2 css
def OInv (w : World) (g : Nat) (d : Int) (st : List ByteArray × List V) (n : Nat) (W : World) : Prop := ∃ rowK rowI css, OInvR w g d st n rowK rowI css W
theorem OInvR.keep {w : World} {g : Nat} {d : Int} {st : List ByteArray × List V} {n n' : Nat} {rowK rowI : Value} {css : List (List Value)} {W W' : World} (h : OInvR w g d st n rowK rowI css W) (hg : g < w.heap.size) (hw : W.grownBy W' (some g)) (hn : n ≤ n') : OInvR w g d st n' rowK rowI css W' := by
  obtain ⟨h1, h2, h3, h4, h5, h6, h7, h8, h9, h10⟩ := h
  have hf := @out_far (w.heap.size + 4) g [rowK.ownBlock, rowI.ownBlock] W W' (by omega) hw
  exact ⟨grow_trans h1 hw, Nat.le_trans h2 hw.size, h3.grown hw (by simp; omega), h4.grown hw (by simp; omega), h5.grown hw (by simp; omega), ⟨Nat.le_trans h6.1 hn, h6.2⟩, h7.grown hw (by simp; omega), own_far h8 (by omega) hw, own_far h9 (by omega) hw, h10.keep hf.1 hf.2⟩
theorem OInv.keep {w : World} {g : Nat} {d : Int} {st : List ByteArray × List V} {n n' : Nat} {W W' : World} (h : OInv w g d st n W) (hg : g < w.heap.size) (hw : W.grownBy W' (some g)) (hn : n ≤ n') : OInv w g d st n' W' := by
  obtain ⟨rowK, rowI, css, h⟩ := h
  exact ⟨rowK, rowI, css, h.keep hg hw hn⟩
theorem ins_len {α : Type} (l : List α) (i : Nat) (x : α) (h : i ≤ l.length) : (l.take i ++ x :: l.drop i).length = l.length + 1 := by
  simp; omega
/-- Behind an item of an object. -/
theorem obj_end {w W0 W3 W4 W5 W6 W8 W9 : World} {g : Nat} {d : Int} {st : List ByteArray × List V} {n n' k' : Nat} {s : ByteArray} {rowK rowI rowK' rowI' : Value} {css : List (List Value)} {x : V} {A K : Option Addr} {c q : Nat} {key : ByteArray} (hg : g < w.heap.size) (hI : OInvR w g d st n rowK rowI css W0) (hn : n < n')
    (h4 : W0.grownBy W4 (some g)) (hP : PAt W4 g s k' n') (hs3 : W0.heap.size ≤ W3.heap.size) (hL : LiesIn (Fresh W3 W4) W4 x A c K q) (hkey : ¬ key ∈ st.1) (hks : key.size ≤ maxLen)
    (h5 : W4.grownBy W5 none) (hp6 : Put W5 (w.heap.size + 4) 9 1 rowK st.1.length (posK key st.1) (st.1.map .string) [.string key] (.returned rowK') W6)
    (h8 : (W6.setCell ⟨w.heap.size + 3, 4, none⟩ rowK').grownBy W8 none) (hp9 : Put W8 (w.heap.size + 4) 35 5 rowI st.2.length (posK key st.1) css.flatten (fieldsL x A c K q) (.returned rowI') W9) :
    OInv w g d (insK st key x) n' (W9.setCell ⟨w.heap.size + 3, 3, none⟩ rowI') ∧ PAt (W9.setCell ⟨w.heap.size + 3, 3, none⟩ rowI') g s k' n' := by
  have hI4 := hI.keep hg h4 (Nat.le_of_lt hn)
  have hrK : ∀ b, rowK.ownBlock = some b → w.heap.size + 4 ≤ b ∧ b < W0.heap.size := fun b hb => World.ownsRow.lt hI.2.2.2.2.2.2.2.1 b hb
  have hrI : ∀ b, rowI.ownBlock = some b → w.heap.size + 4 ≤ b ∧ b < W0.heap.size := fun b hb => World.ownsRow.lt hI.2.2.2.2.2.2.2.2.1 b hb
  have hIs := hI.2.2.2.2.2.1
  have hs0 := hI.2.1
  clear hI
  obtain ⟨e1, e2, e3, e4, e5, e6, e7, e8, e9, e10⟩ := hI4
  have s5 := h5.size
  have b5 := e7.grown h5 (by simp)
  obtain ⟨o1, o2, o3, o4, o5, o6, o7, o8⟩ := put_done (j := 4) hp6 (fun b hb => (hrK b hb).1) b5 (by omega) (by omega)
  have s8 := h8.size
  have b8 : BlockIs W8 (w.heap.size + 3) 35 #[.int .i64 5, .int .i64 0, .string ⟨#[]⟩, rowI, rowK'] := by
    have := o2.grown h8 (by simp)
    simpa using this
  obtain ⟨q1, q2, q3, q4, q5, q6, q7, q8⟩ := put_done (j := 3) hp9 (fun b hb => (hrI b hb).1) b8 (by omega) (by omega)
  have hs4 := h4.size
  -- what was there behind the value is there at the end
  have hold : ∀ b, b < W4.heap.size → b ≠ w.heap.size + 3 → some b ≠ rowK.ownBlock → some b ≠ rowI.ownBlock → (W9.setCell ⟨w.heap.size + 3, 3, none⟩ rowI').heap[b]? = W4.heap[b]? := by
    intro b hb h1 h2 h3
    rw [q3 b (by omega) h1 h3, h8.block b (by omega) (by simp), o3 b (by omega) h1 h2, h5.block b hb (by simp)]
  have hlowK : ∀ b, b < w.heap.size + 4 → some b ≠ rowK.ownBlock := fun b hb e => by have := (hrK _ e.symm).1; omega
  have hlowI : ∀ b, b < w.heap.size + 4 → some b ≠ rowI.ownBlock := fun b hb e => by have := (hrI _ e.symm).1; omega
  have hG : w.grownBy (W9.setCell ⟨w.heap.size + 3, 3, none⟩ rowI') (some g) := by
    refine ⟨q5.trans (h8.os.trans (o5.trans (h5.os.trans e1.os))), q6.trans (h8.tape.trans (o6.trans (h5.tape.trans e1.tape))), q7.trans (h8.output.trans (o7.trans (h5.output.trans e1.output))), by omega, fun b hb hne => ?_⟩
    rw [hold b (by omega) (by omega) (hlowK b (by omega)) (hlowI b (by omega))]
    exact e1.block b hb hne
  have hKI : ∀ b, rowI.ownBlock = some b → some b ≠ rowK'.ownBlock := fun b hb => o8 b (by have := (hrI b hb).2; omega) (own_apart e9 e8 (by decide) hb)
  have hne9 : rowK'.ownBlock = none ∨ rowK'.ownBlock ≠ rowI.ownBlock := by
    rcases hk : rowK'.ownBlock with _ | b
    · exact .inl rfl
    · exact .inr fun e => (hKI b e.symm) hk.symm
  have hlowK' : some (w.heap.size + 3) ≠ rowK'.ownBlock := fun e => by have := (World.ownsRow.lt o1 _ e.symm).1; omega
  have hK9 : (W9.setCell ⟨w.heap.size + 3, 3, none⟩ rowI').ownsRow (w.heap.size + 4) 9 1 rowK' (st.1.length + 1) ((st.1.map .string).take (posK key st.1 * 1) ++ [.string key] ++ (st.1.map .string).drop (posK key st.1 * 1)) := by
    have o1' := o1.kept h8 (by cases rowK'.ownBlock <;> simp)
    obtain ⟨v'', _, _, hg9, _⟩ := hp9
    exact own_set_far (o1'.kept hg9 hne9) _ _ hlowK'
  have hkeep : ∀ b, w.heap.size + 4 ≤ b → b < W4.heap.size → some b ≠ rowK.ownBlock → some b ≠ rowI.ownBlock → Out (w.heap.size + 4) [rowK'.ownBlock, rowI'.ownBlock] (W9.setCell ⟨w.heap.size + 3, 3, none⟩ rowI') b ∧ ∀ o, (W9.setCell ⟨w.heap.size + 3, 3, none⟩ rowI').cell? ⟨b, o, none⟩ = W4.cell? ⟨b, o, none⟩ := by
    intro b h1 h2 h3 h4'
    refine ⟨⟨h1, by omega, fun f hf => ?_⟩, fun o => World.cell?_of_block (hold b h2 (by omega) h3 h4')⟩
    rcases List.mem_cons.1 hf with rfl | hf
    · exact o8 b (by omega) h3
    · rw [List.mem_singleton.1 hf]; exact q8 b (by omega) h4'
  have hout : ∀ b, Out (w.heap.size + 4) [rowK.ownBlock, rowI.ownBlock] W4 b → w.heap.size + 4 ≤ b ∧ b < W4.heap.size ∧ some b ≠ rowK.ownBlock ∧ some b ≠ rowI.ownBlock := fun b hb => ⟨hb.1, hb.2.1, hb.2.2 _ (by simp), hb.2.2 _ (by simp)⟩
  have hR1 : RowsIn (Out (w.heap.size + 4) [rowK'.ownBlock, rowI'.ownBlock] (W9.setCell ⟨w.heap.size + 3, 3, none⟩ rowI')) (W9.setCell ⟨w.heap.size + 3, 3, none⟩ rowI') st.2 css :=
    e10.keep (fun b o hb => (hkeep b (hout b hb).1 (hout b hb).2.1 (hout b hb).2.2.1 (hout b hb).2.2.2).2 o) (fun b hb => (hkeep b (hout b hb).1 (hout b hb).2.1 (hout b hb).2.2.1 (hout b hb).2.2.2).1)
  have hfr : ∀ b, Fresh W3 W4 b → w.heap.size + 4 ≤ b ∧ b < W4.heap.size ∧ some b ≠ rowK.ownBlock ∧ some b ≠ rowI.ownBlock := fun b hb => ⟨by have := hb.1; omega, hb.2, fun e => by have := (hrK b e.symm).2; have := hb.1; omega, fun e => by have := (hrI b e.symm).2; have := hb.1; omega⟩
  have hL' := LiesIn.keep (P' := Out (w.heap.size + 4) [rowK'.ownBlock, rowI'.ownBlock] (W9.setCell ⟨w.heap.size + 3, 3, none⟩ rowI')) (w' := W9.setCell ⟨w.heap.size + 3, 3, none⟩ rowI') (fun b o hb => (hkeep b (hfr b hb).1 (hfr b hb).2.1 (hfr b hb).2.2.1 (hfr b hb).2.2.2).2 o) (fun b hb => (hkeep b (hfr b hb).1 (hfr b hb).2.1 (hfr b hb).2.2.1 (hfr b hb).2.2.2).1) x hL
  have hpos : posK key st.1 ≤ st.1.length := posK_le _ _
  have hlK : (insK st key x).1.length = st.1.length + 1 := ins_len _ _ _ hpos
  have hlI : (insK st key x).2.length = st.2.length + 1 := ins_len _ _ _ (by omega)
  have hat : ∀ b, b < w.heap.size + 3 → (W9.setCell ⟨w.heap.size + 3, 3, none⟩ rowI').heap[b]? = W4.heap[b]? := fun b hb => hold b (by omega) (by omega) (hlowK b (by omega)) (hlowI b (by omega))
  refine ⟨⟨rowK', rowI', css.take (posK key st.1) ++ fieldsL x A c K q :: css.drop (posK key st.1), hG, by omega, (hat _ (by omega)).trans e3, (hat _ (by omega)).trans e4, (hat _ (by omega)).trans e5, ⟨?_, ?_, rising_ins hIs.2.2.1 hkey, ?_⟩, ?_, ?_, ?_, ?_⟩, (hat g (by omega)).trans hP⟩
  · rw [hlI]; omega
  · rw [hlK, hlI]; omega
  · intro k hk
    rcases List.mem_append.1 hk with hk | hk
    · exact hIs.2.2.2 k (List.mem_of_mem_take hk)
    · rcases List.mem_cons.1 hk with rfl | hk
      · exact hks
      · exact hIs.2.2.2 k (List.mem_of_mem_drop hk)
  · simpa using q2
  · rw [hlK, show (insK st key x).1.map Value.string = (st.1.map .string).take (posK key st.1 * 1) ++ [.string key] ++ (st.1.map .string).drop (posK key st.1 * 1) by simp [insK, List.map_take, List.map_drop]]
    exact hK9
  · rw [hlI, e10.flat_ins]
    exact q1
  · exact hR1.ins (posK key st.1) ⟨A, c, K, q, rfl, hL'⟩
end Go.Proofs.YtfiiaeomlmckfaaGreatDoor
/- Reading: an object, walked. -/
namespace Go.Proofs.YtfiiaeomlmckfaaGreatDoor
open Go.RowKit

section
variable {w W : World} {g : Nat} {d : Int} {st : List ByteArray × List V} {n : Nat} {rowK rowI : Value} {css : List (List Value)}
theorem OInvR.p0 (h : OInvR w g d st n rowK rowI css W) : W.cell? ⟨w.heap.size, 0, none⟩ = some (.pointer (some ⟨g, 0, none⟩)) := by simpa using h.2.2.1.cell 0
theorem OInvR.p1 (h : OInvR w g d st n rowK rowI css W) : W.cell? ⟨w.heap.size + 1, 0, none⟩ = some (.int .i64 d) := by simpa using h.2.2.2.1.cell 0
theorem OInvR.v3 (h : OInvR w g d st n rowK rowI css W) : W.cell? ⟨w.heap.size + 3, 3, none⟩ = some rowI := by simpa using h.2.2.2.2.2.2.1.cell 3
theorem OInvR.v4 (h : OInvR w g d st n rowK rowI css W) : W.cell? ⟨w.heap.size + 3, 4, none⟩ = some rowK := by simpa using h.2.2.2.2.2.2.1.cell 4
end
theorem textP_100 : ∀ (f : Nat) {l acc t r : List UInt8}, l.length ≤ f → acc.length ≤ 100 → textP l acc = some (t, r) → t.length ≤ 100
  | 0, l, _, _, _, hf, _, h => by cases l with
    | nil => simp [textP] at h
    | cons => simp at hf
  | f + 1, [], _, _, _, _, _, h => by simp [textP] at h
  | f + 1, c :: l, acc, t, r, hf, ha, h => by
    rw [textP_cons] at h
    simp only [List.length_cons] at hf
    split at h
    · simp at h; rw [← h.1]; exact ha
    · split at h
      · cases l with
        | nil => simp at h
        | cons x q =>
          simp only [List.length_cons] at hf
          simp only [] at h
          split at h
          · rename_i hx
            exact textP_100 f (by omega) (by simp; omega) h
          · cases h
      · split at h
        · rename_i hx
          exact textP_100 f (by omega) (by simp; omega) h
        · cases h
theorem quotedP_100 {l t r : List UInt8} (h : quotedP l = some (t, r)) : t.length ≤ 100 := by
  cases l with
  | nil => simp [quotedP] at h
  | cons c l =>
    rw [quotedP] at h
    split at h
    · exact textP_100 _ (Nat.le_refl _) (by simp) h
    · cases h
attribute [local go_sem ↓] Go.wp_at_zero Go.wp_at_succ
set_option maxRecDepth 100000 in
set_option maxHeartbeats 4000000 in
theorem item_object (g : Nat) (s : ByteArray) (hs : s.size ≤ 1000000) (d : Nat) (hd : d ≤ 6) (f : Nat → List UInt8 → Option (V × List UInt8 × Nat)) (w : World) (hg : g < w.heap.size) (hmore : ∀ n l x l' n', f n l = some (x, l', n') → n < n') (hok : ∀ n l x l' n', f n l = some (x, l', n') → l'.length ≤ l.length ∧ n' ≤ 60)
    (hval : ∀ (k n : Nat) (W : World), PAt W g s k n → k ≤ s.size → n ≤ 60 → Calls Tryz.prog 35 #[.pointer (some ⟨g, 0, none⟩), .int .i64 ((d : Int) + 1)] W (VPost g s W (f n (sfx s k))))
    (st : List ByteArray × List V) (k n : Nat) (W : World) (hI : OInv w g d st n W) (hP : PAt W g s k n) (hk : k ≤ s.size) (hn : n ≤ 60) :
    Calls Tryz.prog 78 #[.pointer (some ⟨w.heap.size, 0, none⟩), .pointer (some ⟨w.heap.size + 1, 0, none⟩), .pointer (some ⟨w.heap.size + 3, 0, none⟩)] W (SPost (OInv w g d) (fun W' => w.grownBy W' (some g)) g s (stepO f st n (sfx s k))) := by
  obtain ⟨rowK, rowI, css, hI⟩ := hI
  have HI := Lib.hid hI
  have HV := Lib.hid hval
  have HM := Lib.hid hmore
  have HO := Lib.hid hok
  have HP := Lib.hid hP
  have p0 := hI.p0
  have HC := Lib.hid fun (W : World) (j : Nat) (hW : PAt W g s j n) (hj : j ≤ s.size) => accept_any g s j n 58 58 rfl W hW hj hs
  clear hval hmore hok hI hP
  obtain ⟨R, hR⟩ : ∃ R, R = stepO f st n (sfx s k) := ⟨_, rfl⟩
  rw [← hR]
  have HR := Lib.hid hR
  clear hR
  go_enter Tryz.func78, Tryz.ntmps78
  go_wp2_with fail
  refine (blanks_any g s k n _ HP.out hk hs).mono ?_
  rintro e w1 ⟨rfl, k1, hk1, hsk1, hw1⟩
  have HW1 := Lib.hid hw1
  have HS1 := Lib.hid hsk1
  have p0' := (HI.out.keep hg hw1.1 (Nat.le_refl _)).p0
  clear hw1 hsk1 p0
  go_wp2_with fail
  refine (quoted_any g s k1 n _ HW1.out.2 hk1 hs).mono ?_
  intro e w2 hp
  rcases hq : quotedP (sfx s k1) with _ | ⟨t, l1⟩
  · rw [hq] at hp
    obtain ⟨rfl, hp⟩ := hp
    refine ⟨rfl, ?_⟩
    rw [show R = none by rw [HR.out, stepO, ← HS1.out, hq]]
    exact ⟨rfl, grow_trans HI.out.1 (grow_trans HW1.out.1 hp)⟩
  rw [hq] at hp
  obtain ⟨rfl, k2, hk2, hsk2, hw2⟩ := hp
  have HQ := Lib.hid hq
  have HS2 := Lib.hid hsk2
  have HW2 := Lib.hid (HW1.out.trans hw2)
  have p0 := (HI.out.keep hg HW2.out.1 (Nat.le_refl _)).p0
  clear hq hsk2 hw2 p0'
  go_wp2_with fail
  by_cases hc : takesP 58 (skipP (sfx s k2)) = true
  · have HT := Lib.hid hc
    clear hc
    refine wp_region_held_drew (S := fun w' => w'.cell? ⟨w.heap.size, 0, none⟩ = some (.pointer (some ⟨g, 0, none⟩))) (by kernel_rfl) (show _ from p0) (fun hHeld => ?_)
    refine wpAnyH_take (i := 0) (oi := _) (v := ?_) rfl (by kernel_rfl) (by kernel_rfl) (by kernel_rfl) (fun _ _ _ h => h) (Or.inl ⟨by rfl, (by intro w hSw; (try dsimp only at hSw); go_simp; try (with_reducible rfl))⟩) (by assumption) ?_
    (try simp only [Act.put]); (try simp only [List.setIfInBounds_toArray]); (try simp only [List.set_cons_succ]); (try simp only [List.set_cons_zero])
    refine wpAnyH_take (i := 1) (oi := _) (v := ?_) rfl (by kernel_rfl) (by kernel_rfl) (by kernel_rfl) (fun _ _ _ h => h) (Or.inl ⟨by rfl, (by intro w hSw; (try dsimp only at hSw); go_simp; try (with_reducible rfl))⟩) (by assumption) ?_
    (try simp only [Act.put]); (try simp only [List.setIfInBounds_toArray]); (try simp only [List.set_cons_succ]); (try simp only [List.set_cons_zero])
    refine wpAnyH_ready (rs := [2]) (by kernel_rfl) (by simp) ?_
    refine AllReadyH.cons (o := _) rfl (fun K hK => ?_) AllReadyH.nil
    go_simp
    refine (HC.out _ k2 HW2.out.drew.2 hk2).mono ?_
    rintro e w3 ⟨rfl, k3, hk3, hsk3, hw3⟩
    have HW3 := Lib.hid (HW2.out.drew.trans hw3)
    have HS3 := Lib.hid hsk3
    have HI3 := Lib.hid (HI.out.keep hg HW3.out.1 (Nat.le_refl _))
    clear hw3 hsk3 p0
    refine hK.out _ _ HI3.out.p0 (fun hH3 => ?_)
    clear hK K
    refine wpAnyH_ready (rs := [3]) (by kernel_rfl) (by simp) ?_
    refine AllReadyH.cons (o := _) rfl (fun K hK => ?_) AllReadyH.nil
    go_simp
    refine (must_on HT.out _ _).mono ?_
    rintro e w' ⟨rfl, rfl⟩
    refine hK.out _ _ HI3.out.p0 (fun _ => ?_)
    clear hK K
    refine wpAnyH_done (by kernel_rfl) ?_ _
    have p0 := HI3.out.p0
    have p1 := HI3.out.p1
    go_wp2_with fail
    refine (HV.out k3 n _ HW3.out.2 hk3 hn).mono ?_
    intro e w4 hp
    rcases hst : f n (sfx s k3) with _ | ⟨x, l, n'⟩
    · rw [hst] at hp
      obtain ⟨rfl, hp⟩ := hp
      refine ⟨rfl, ?_⟩
      rw [show R = none by rw [HR.out, stepO, ← HS1.out, HQ.out]; simp only []; rw [← HS2.out, if_pos HT.out, ← HS3.out, hst]]
      exact ⟨rfl, grow_trans HI3.out.1 hp⟩
    rw [hst] at hp
    obtain ⟨A, c, K, q, k4, rfl, hL, hk4, hsk4, hW4⟩ := hp
    have hn' := HM.out _ _ _ _ _ hst
    have hn60 := (HO.out _ _ _ _ _ hst).2
    have HX := Lib.hid hst
    have HL := Lib.hid hL
    have HW4 := Lib.hid (HW3.out.trans hW4)
    have HI4 := Lib.hid (HI3.out.keep hg hW4.1 (Nat.le_of_lt hn'))
    have hsz := hW4.1.size
    have hsz3 := HI3.out.2.1
    obtain ⟨KA, kc, rfl⟩ : ∃ A c, rowK = .slice A st.1.length c := own_form HI4.out.2.2.2.2.2.2.2.1
    obtain ⟨IA, ic, rfl⟩ : ∃ A c, rowI = .slice A st.2.length c := own_form HI4.out.2.2.2.2.2.2.2.2.1
    have HN := Lib.hid <| show st.1.length = st.2.length ∧ st.2.length ≤ 60 from ⟨HI4.out.2.2.2.2.2.1.2.1, by have := HI4.out.2.2.2.2.2.1.1; omega⟩
    have hlt3 : w.heap.size + 3 < w4.heap.size := by omega
    have HB := Lib.hid fun (W : World) (hW : W.ownsRow (w.heap.size + 4) 9 1 (.slice KA st.1.length kc) st.1.length (st.1.map .string)) => search_any W (w.heap.size + 4) _ st.1 ⟨t.toArray⟩ HI4.out.2.2.2.2.2.1.2.2.1 (by have := HN.out; omega) hW
    have hlt0 : w.heap.size < w4.heap.size := by omega
    have v3 := HI4.out.v3
    have v4 := HI4.out.v4
    clear hL hW4 hst hH3 hHeld p0 p1
    have p04 := HI4.out.p0
    unfold cellsOf
    go_wp2_with fail
    refine (HB.out _ (World.ownsRow.alloc HI4.out.2.2.2.2.2.2.2.1 _)).mono ?_
    rintro e w5 ⟨rfl, q5, rfl⟩
    by_cases hh : hasK ⟨t.toArray⟩ st.1 = true
    · have hN : R = none := by
        rw [HR.out, stepO, ← HS1.out, HQ.out]
        simp only []
        rw [← HS2.out, if_pos HT.out, ← HS3.out, HX.out]
        simp only []
        rw [if_pos hh]
      rw [hh]
      go_wp2_with (go_at_call 37; refine (must_no _ _).mono ?_; rintro e w' ⟨rfl, rfl⟩)
      refine ⟨rfl, ?_⟩
      rw [hN]
      exact ⟨rfl, grow_drewN (grow_alloc HI4.out.1 _) _⟩
    · have hhf : hasK ⟨t.toArray⟩ st.1 = false := by simpa using hh
      rw [hhf]
      go_wp2_with (go_at_call 37; refine (must_yes _ _).mono ?_; rintro e w' ⟨rfl, rfl⟩)
      have h4r := HI4.out
      obtain ⟨W5, hW5⟩ : ∃ W5, W5 = ((w4.alloc (.cells #[.int .i64 x.kind, .int .i64 x.int, .string x.text, .slice A x.items.length c, .slice K x.keys.length q] 35)).drewN q5).alloc (.cells #[.string ⟨t.toArray⟩] 9) := ⟨_, rfl⟩
      have h5 : ∀ r, w4.grownBy W5 r := fun r => by rw [hW5]; exact grow_alloc (grow_drewN (grow_alloc (grow_refl _ r) _) q5) _
      have hB5 : BlockIs W5 (w4.heap.size + 1) 9 #[.string ⟨t.toArray⟩] := by rw [hW5]; exact BlockIs.newAt _ _ _ (by simp [World.drewN])
      have hT5 : BlockIs W5 w4.heap.size 35 #[.int .i64 x.kind, .int .i64 x.int, .string x.text, .slice A x.items.length c, .slice K x.keys.length q] := by rw [hW5]; exact ((BlockIs.new w4 _ _).drewN q5).alloc _
      have hs5 : w4.heap.size + 2 ≤ W5.heap.size := by rw [hW5]; simp [World.drewN]
      have h5I := h4r.keep hg (h5 (some g)) (Nat.le_refl _)
      rw [← hW5]
      clear hW5
      obtain ⟨-, -, -, -, -, -, hb5, hK5, hI5, hR5⟩ := h5I
      have hks : t.length ≤ 100 := quotedP_100 HQ.out
      have hKlt := fun b hb => (World.ownsRow.lt h4r.2.2.2.2.2.2.2.1 b hb).2
      have hIlt := fun b hb => (World.ownsRow.lt h4r.2.2.2.2.2.2.2.2.1 b hb).2
      have hKI := fun b hb => own_apart hI5 hK5 (by decide) (b := b) hb
      have hnT : ¬ w.heap.size + 3 = w4.heap.size := by omega
      have hnT' : ¬ w4.heap.size = w.heap.size + 3 := by omega
      have hne3K : some (w.heap.size + 3) ≠ (Value.slice KA st.1.length kc).ownBlock := fun e => by have := (World.ownsRow.lt h4r.2.2.2.2.2.2.2.1 _ e.symm).1; omega
      have hne3I : some (w.heap.size + 3) ≠ (Value.slice IA st.2.length ic).ownBlock := fun e => by have := (World.ownsRow.lt h4r.2.2.2.2.2.2.2.2.1 _ e.symm).1; omega
      have hHN := HN.out
      have hpos : posK ⟨t.toArray⟩ st.1 ≤ st.1.length := posK_le _ _
      have hC6 := insS W5 (w.heap.size + 4) (.slice KA st.1.length kc) st.1.length (posK ⟨t.toArray⟩ st.1) (st.1.map .string) (w4.heap.size + 1) #[.string ⟨t.toArray⟩] hK5 hpos (by omega) (fun e => by have := hKlt _ e.symm; omega) hB5 rfl (by simp; rfl) (by intro u hu; obtain ⟨y, _, rfl⟩ := List.mem_map.1 hu; rfl) (by omega)
      refine hC6.mono ?_
      clear hC6
      intro e w6 hp6
      have hp6' := hp6
      obtain ⟨rowK', rfl, hK6, hg6, hwh6⟩ := hp6'
      obtain ⟨KA', kc', rfl⟩ : ∃ A c, rowK' = .slice A (st.1.length + 1) c := own_form hK6
      have b6 := hb5.grown hg6 hne3K
      have t6 := hT5.grown hg6 (fun e => by have := hKlt _ e.symm; omega)
      have hI6 : w6.ownsRow (w.heap.size + 4) 35 5 (.slice IA st.2.length ic) st.2.length css.flatten := hI5.kept hg6 (by
        rcases hk : (Value.slice IA st.2.length ic).ownBlock with _ | b
        · exact .inl rfl
        · exact .inr (hKI b hk))
      have hs6 := hg6.size
      have H6 := Lib.hid (And.intro hp6 (And.intro hI6 (And.intro b6 h5)))
      have HL6 := Lib.hid (And.intro hne3I (And.intro hIlt (And.intro (rows_one hR5) hHN)))
      have v3 : w6.cell? ⟨w.heap.size + 3, 3, none⟩ = some (.slice IA st.2.length ic) := by simpa using b6.cell 3
      have v4 : w6.cell? ⟨w.heap.size + 3, 4, none⟩ = some (.slice KA st.1.length kc) := by simpa using b6.cell 4
      have f4 : w6.frozen? ⟨w.heap.size + 3, 4, none⟩ = false := b6.frozen 4
      have c0 : w6.cell? ⟨w4.heap.size, 0, none⟩ = some (.int .i64 x.kind) := by simpa using t6.cell 0
      have c1 : w6.cell? ⟨w4.heap.size, 1, none⟩ = some (.int .i64 x.int) := by simpa using t6.cell 1
      have c2 : w6.cell? ⟨w4.heap.size, 2, none⟩ = some (.string x.text) := by simpa using t6.cell 2
      have c3 : w6.cell? ⟨w4.heap.size, 3, none⟩ = some (.slice A x.items.length c) := by simpa using t6.cell 3
      have c4 : w6.cell? ⟨w4.heap.size, 4, none⟩ = some (.slice K x.keys.length q) := by simpa using t6.cell 4
      clear hp6 hI6 b6 h5 hne3I hIlt hR5 hHN hK6 hg6 hwh6 t6 hK5 hI5 hb5 hB5 hT5 hKlt hKI hne3K h4r p04
      go_wp2_with fail
      have h6r := H6.out
      obtain ⟨hne3I, hIlt, hone, hHN⟩ := HL6.out
      obtain ⟨W8, hW8⟩ : ∃ W8, W8 = (w6.setCell ⟨w.heap.size + 3, 4, none⟩ (Value.slice KA' (st.1.length + 1) kc')).alloc (.cells #[.int .i64 x.kind, .int .i64 x.int, .string x.text, .slice A x.items.length c, .slice K x.keys.length q] 35) := ⟨_, rfl⟩
      have h8 : (w6.setCell ⟨w.heap.size + 3, 4, none⟩ (Value.slice KA' (st.1.length + 1) kc')).grownBy W8 none := by rw [hW8]; exact grow_alloc (grow_refl _ none) _
      have hB8 : BlockIs W8 w6.heap.size 35 #[.int .i64 x.kind, .int .i64 x.int, .string x.text, .slice A x.items.length c, .slice K x.keys.length q] := by rw [hW8]; exact BlockIs.newAt _ _ _ (by simp [World.setCell])
      have hI8 : W8.ownsRow (w.heap.size + 4) 35 5 (.slice IA st.2.length ic) st.2.length css.flatten := by rw [hW8]; exact World.ownsRow.alloc (own_set_far h6r.2.1 _ _ hne3I) _
      have hs8 : w6.heap.size + 1 ≤ W8.heap.size := by rw [hW8]; simp [World.setCell]
      have hb8 : BlockIs W8 (w.heap.size + 3) 35 #[.int .i64 5, .int .i64 0, .string ⟨#[]⟩, .slice IA st.2.length ic, (Value.slice KA' (st.1.length + 1) kc')] := by
        rw [hW8]
        have := (h6r.2.2.1.set_ 4 (Value.slice KA' (st.1.length + 1) kc')).alloc (.cells #[.int .i64 x.kind, .int .i64 x.int, .string x.text, .slice A x.items.length c, .slice K x.keys.length q] 35)
        simpa using this
      rw [← hW8]
      clear hW8
      have hpos8 : posK ⟨t.toArray⟩ st.1 ≤ st.2.length := by rw [← hHN.1]; exact hpos
      have hC9 := insV W8 (w.heap.size + 4) (.slice IA st.2.length ic) st.2.length (posK ⟨t.toArray⟩ st.1) css.flatten w6.heap.size #[.int .i64 x.kind, .int .i64 x.int, .string x.text, .slice A x.items.length c, .slice K x.keys.length q] hI8 hpos8 (by omega) (fun e => by have := hIlt _ e.symm; omega) hB8 rfl (by intro u hu; simp only [List.mem_cons, List.not_mem_nil, or_false] at hu; rcases hu with rfl | rfl | rfl | rfl | rfl <;> rfl) hone (by omega)
      refine hC9.mono ?_
      clear hC9
      intro e w9 hp9
      have hp9' := hp9
      obtain ⟨rowI', rfl, hI9, hg9, hwh9⟩ := hp9'
      obtain ⟨IA', ic', rfl⟩ : ∃ A c, rowI' = .slice A (st.2.length + 1) c := own_form hI9
      have b9 := hb8.grown hg9 hne3I
      have v3 : w9.cell? ⟨w.heap.size + 3, 3, none⟩ = some (.slice IA st.2.length ic) := by simpa using b9.cell 3
      have f3 : w9.frozen? ⟨w.heap.size + 3, 3, none⟩ = false := b9.frozen 3
      have hEnd := Lib.hid (obj_end (W3 := w') hg HI.out hn' HW4.out.1 HW4.out.2 HW3.out.1.size HL.out (key := ⟨t.toArray⟩) (fun e => hh ((hasK_iff _ _).2 e)) (by show t.toArray.size ≤ maxLen; unfold maxLen; simp; omega) (h6r.2.2.2 none) h6r.1 h8 hp9)
      have hS : R = some (insK st ⟨t.toArray⟩ x, l, n') := by
        rw [HR.out, stepO, ← HS1.out, HQ.out]
        simp only []
        rw [← HS2.out, if_pos HT.out, ← HS3.out, HX.out]
        simp only []
        rw [if_neg hh]
      clear h6r hIlt hone hHN h8 hB8 hI8 hb8 hp9 hI9 hg9 hwh9 b9
      go_wp2_with fail
      refine bodyPost_end (v := .tuple #[]) (by simp [results, Tryz.results78, go_sem]) rfl ?_
      rw [hS]
      exact spost_some hEnd.out hk4 hsk4
  · have HT := Lib.hid hc
    have HF := Lib.hid (show takesP 58 (skipP (sfx s k2)) = false by simpa using hc)
    clear hc
    refine wp_region_held_drew (S := fun w' => w'.cell? ⟨w.heap.size, 0, none⟩ = some (.pointer (some ⟨g, 0, none⟩))) (by kernel_rfl) (show _ from p0) (fun hHeld => ?_)
    refine wpAnyH_take (i := 0) (oi := _) (v := ?_) rfl (by kernel_rfl) (by kernel_rfl) (by kernel_rfl) (fun _ _ _ h => h) (Or.inl ⟨by rfl, (by intro w hSw; (try dsimp only at hSw); go_simp; try (with_reducible rfl))⟩) (by assumption) ?_
    (try simp only [Act.put]); (try simp only [List.setIfInBounds_toArray]); (try simp only [List.set_cons_succ]); (try simp only [List.set_cons_zero])
    refine wpAnyH_take (i := 1) (oi := _) (v := ?_) rfl (by kernel_rfl) (by kernel_rfl) (by kernel_rfl) (fun _ _ _ h => h) (Or.inl ⟨by rfl, (by intro w hSw; (try dsimp only at hSw); go_simp; try (with_reducible rfl))⟩) (by assumption) ?_
    (try simp only [Act.put]); (try simp only [List.setIfInBounds_toArray]); (try simp only [List.set_cons_succ]); (try simp only [List.set_cons_zero])
    refine wpAnyH_ready (rs := [2]) (by kernel_rfl) (by simp) ?_
    refine AllReadyH.cons (o := _) rfl (fun K hK => ?_) AllReadyH.nil
    go_simp
    refine (HC.out _ k2 HW2.out.drew.2 hk2).mono ?_
    rintro e w3 ⟨rfl, k3, hk3, hsk3, hw3⟩
    have HW3 := Lib.hid (HW2.out.drew.trans hw3)
    have HI3 := Lib.hid (HI.out.keep hg HW3.out.1 (Nat.le_refl _))
    refine hK.out _ _ HI3.out.p0 (fun hH3 => ?_)
    clear hK K
    refine wpAnyH_ready (rs := [3]) (by kernel_rfl) (by simp) ?_
    refine AllReadyH.cons (o := _) rfl (fun K hK => ?_) AllReadyH.nil
    go_simp
    refine (must_of HF.out _ _).mono ?_
    rintro e w' ⟨rfl, rfl⟩
    refine ⟨rfl, ?_⟩
    rw [show R = none by rw [HR.out, stepO, ← HS1.out, HQ.out]; simp only []; rw [← HS2.out, if_neg HT.out]]
    exact ⟨rfl, HI3.out.1⟩
end Go.Proofs.YtfiiaeomlmckfaaGreatDoor
/- Reading: an object, whole. -/
namespace Go.Proofs.YtfiiaeomlmckfaaGreatDoor
open Go.RowKit

theorem keys_from {w : World} {b : Nat} : ∀ {keys : List ByteArray} {o : Nat}, (∀ k ∈ keys, k.size ≤ maxLen) → (∀ (j : Nat) (v : Value), (keys.map Value.string)[j]? = some v → w.cell? ⟨b, o + j, none⟩ = some v) → StrsFrom w keys b o
  | [], _, _, _ => trivial
  | k :: r, o, hk, hc => ⟨hc 0 _ rfl, hk k (by simp), keys_from (fun x hx => hk x (by simp [hx])) fun j v hj => by
    have := hc (j + 1) v (by simpa using hj)
    rw [show o + 1 + j = o + (j + 1) by omega]; exact this⟩
theorem object_result {w W : World} {g : Nat} {d : Int} {st : List ByteArray × List V} {n : Nat} {rowK rowI : Value} {css : List (List Value)} (h : OInvR w g d st n rowK rowI css W) :
    ∃ A c K q, rowI = .slice A st.2.length c ∧ rowK = .slice K st.1.length q ∧ ∀ W', (∀ b, w.heap.size + 4 ≤ b → b < W.heap.size → W'.heap[b]? = W.heap[b]?) → W.heap.size ≤ W'.heap.size → LiesIn (Fresh w W') W' (V.mk 5 0 ⟨#[]⟩ st.2 st.1) A c K q := by
  obtain ⟨h1, h2, h3, h4, h5, h6, h7, h8, h9, h10⟩ := h
  have hr : RowsIn (fun b => w.heap.size + 4 ≤ b ∧ b < W.heap.size) W st.2 css := h10.keep (fun _ _ _ => rfl) (fun b hb => ⟨hb.1, hb.2.1⟩)
  obtain ⟨A, c, rfl, hc1, hc2, hA⟩ := rows_lie hr h9 (fun b hb => World.ownsRow.lt h9 b hb)
  have hcK := fun g hg => World.ownsRow.cells h8 (g := g) hg
  obtain ⟨K, q, rfl, hq1, hq2, hK⟩ : ∃ K q, rowK = .slice K st.1.length q ∧ st.1.length ≤ q ∧ q ≤ maxLen ∧ (st.1 = [] ∨ ∃ b, K = some ⟨b, 0, none⟩ ∧ (w.heap.size + 4 ≤ b ∧ b < W.heap.size) ∧ StrsFrom W st.1 b 0) := by
    have hlt := fun b hb => World.ownsRow.lt h8 b hb
    obtain ⟨hl, ⟨rfl, h0⟩ | ⟨g', cap, cur, rfl, hB, hb, hn, hm, hs, ht⟩⟩ := h8
    · exact ⟨none, 0, by rw [h0], by omega, by simp [maxLen], .inl (List.length_eq_zero_iff.1 h0)⟩
    · refine ⟨_, _, rfl, hn, hm, .inr ⟨g', rfl, hlt g' rfl, keys_from h6.2.2.2 fun j v hj => ?_⟩⟩
      have := hcK g' rfl j v hj
      rw [Addr.add_lit] at this
      exact this
  refine ⟨A, c, K, q, rfl, rfl, fun W' hW hs => ?_⟩
  have hf : ∀ b, w.heap.size + 4 ≤ b ∧ b < W.heap.size → Fresh w W' b := fun b hb => ⟨by have := hb.1; omega, by have := hb.2; omega⟩
  have hce : ∀ b o, w.heap.size + 4 ≤ b ∧ b < W.heap.size → W'.cell? ⟨b, o, none⟩ = W.cell? ⟨b, o, none⟩ := fun b o hb => World.cell?_of_block (hW b hb.1 hb.2)
  rw [LiesIn]
  refine ⟨by decide, hc1, hc2, ⟨hq1, hq2, hK.imp id ?_⟩, hA.imp id ?_⟩
  · rintro ⟨b, hKe, hb, hfr⟩
    exact ⟨b, 0, hKe, hf b hb, hfr.keep fun o => hce b o hb⟩
  · rintro ⟨b, o, hAe, hb, hfr⟩
    exact ⟨b, o, hAe, hf b hb, LiesFromIn.keep hce hf st.2 hb hfr⟩
theorem object_start (w : World) (g : Nat) (d : Int) (n : Nat) :
    OInv w g d ([], []) n ((((w.alloc (.cells #[.pointer (some ⟨g, 0, none⟩)] 60)).alloc (.cells #[.int .i64 d] 3)).alloc (.cells zeroF 35)).alloc (.cells #[.int .i64 5, .int .i64 0, .string ⟨#[]⟩, .slice none 0 0, .slice none 0 0] 35)) := by
  refine ⟨.slice none 0 0, .slice none 0 0, [], grow_alloc (grow_alloc (grow_alloc (grow_alloc (grow_refl w _) _) _) _) _, by simp, ?_, ?_, ?_, ⟨Nat.zero_le _, rfl, List.Pairwise.nil, fun k hk => by cases hk⟩, ?_, World.ownsRow_nil _ _ _ _, World.ownsRow_nil _ _ _ _, trivial⟩
  · exact (((BlockIs.new w _ _).alloc _).alloc _).alloc _
  · exact ((BlockIs.newAt _ _ _ (by simp)).alloc _).alloc _
  · exact (BlockIs.newAt _ _ _ (by simp)).alloc _
  · exact BlockIs.newAt _ _ _ (by simp)

set_option maxRecDepth 100000 in
set_option maxHeartbeats 4000000 in
theorem object_any (g : Nat) (s : ByteArray) (hs : s.size ≤ 1000000) (d : Nat) (hd : d ≤ 6) (f : Nat → List UInt8 → Option (V × List UInt8 × Nat)) (hmore : ∀ n l x l' n', f n l = some (x, l', n') → n < n') (hok : ∀ n l x l' n', f n l = some (x, l', n') → l'.length ≤ l.length ∧ n' ≤ 60)
    (hval : ∀ (k n : Nat) (W : World), PAt W g s k n → k ≤ s.size → n ≤ 60 → Calls Tryz.prog 35 #[.pointer (some ⟨g, 0, none⟩), .int .i64 ((d : Int) + 1)] W (VPost g s W (f n (sfx s k))))
    (k n : Nat) (w : World) (hP : PAt w g s k n) (hk : k ≤ s.size) (hn : n ≤ 60) :
    Calls Tryz.prog 53 #[.pointer (some ⟨g, 0, none⟩), .int .i64 d] w (VPost g s w ((seriesP (stepO f) 125 123 ([], []) n (sfx s k)).map fun q => (V.mk 5 0 ⟨#[]⟩ q.1.2 q.1.1, q.2))) := by
  have hg := hP.lt
  have HP := Lib.hid hP
  have HN := Lib.hid (show ∀ (args : Array Value) (W : World), (callFunc 78 args).run Tryz.prog W = .ok (.enter 78 args) W from enters_of Tryz.func78 (by kernel_rfl) rfl)
  have HS := Lib.hid fun (W : World) (hW : PAt W g s k n) (hI : OInv w g d ([], []) n W) => series_any (stepO f) 123 125 123 125 rfl rfl (OInv w g d) (fun W' => w.grownBy W' (some g)) g s 78 (some ⟨w.heap.size, 0, none⟩) (some ⟨w.heap.size + 1, 0, none⟩) (some ⟨w.heap.size + 3, 0, none⟩) HN.out
    (fun st k n W W' hI hW => hI.keep hg hW.1 (Nat.le_refl _)) (fun st n W W' hI hW => by obtain ⟨rowK, rowI, css, hI⟩ := hI; exact grow_trans hI.1 hW) (stepO_ok hok)
    (fun st k n W hI hP hk hn => item_object g s hs d hd f w hg hmore hok hval st k n W hI hP hk hn) hs ([], []) k n W hW hk hn hI
  clear hP hval hok
  have hmf : ∀ (fn : Fn) (first cap : Array Value) (w : World), (Instr.makeFunc fn first cap).run Tryz.prog w = .ok (.func fn first cap) w := fun _ _ _ _ => rfl
  go_enter Tryz.func53, Tryz.ntmps53
  go_wp2_with fail
  refine (HS.out _ ((((PAt.alloc HP.out _).alloc _).alloc _).alloc _) (object_start w g d n)).mono ?_
  intro e w2 hp
  rcases hst : seriesP (stepO f) 125 123 ([], []) n (sfx s k) with _ | ⟨acc, l, n'⟩
  · rw [hst] at hp
    obtain ⟨rfl, hp⟩ := hp
    refine ⟨rfl, ?_⟩
    rw [hst]
    exact ⟨rfl, hp⟩
  rw [hst] at hp
  obtain ⟨rfl, ⟨rowK, rowI, css, hI⟩, k', hk', hsk, hP'⟩ := hp
  obtain ⟨A, c, K, q, rfl, rfl, hres⟩ := object_result hI
  obtain ⟨hI1, hI2, hI3, hI4, hI5, hI6, hI7, hI8, hI9, hI10⟩ := hI
  have v0 : w2.cell? ⟨w.heap.size + 1 + 1 + 1, 0, none⟩ = some (.int .i64 5) := by simpa using hI7.cell 0
  have v1 : w2.cell? ⟨w.heap.size + 1 + 1 + 1, 1, none⟩ = some (.int .i64 0) := by simpa using hI7.cell 1
  have v2 : w2.cell? ⟨w.heap.size + 1 + 1 + 1, 2, none⟩ = some (.string ⟨#[]⟩) := by simpa using hI7.cell 2
  have v3 : w2.cell? ⟨w.heap.size + 1 + 1 + 1, 3, none⟩ = some (.slice A acc.2.length c) := by simpa using hI7.cell 3
  have v4 : w2.cell? ⟨w.heap.size + 1 + 1 + 1, 4, none⟩ = some (.slice K acc.1.length q) := by simpa using hI7.cell 4
  have z0 : w2.cell? ⟨w.heap.size + 1 + 1, 0, none⟩ = some (.int .i64 0) := by simpa [zeroF] using hI5.cell 0
  have z1 : w2.cell? ⟨w.heap.size + 1 + 1, 1, none⟩ = some (.int .i64 0) := by simpa [zeroF] using hI5.cell 1
  have z2 : w2.cell? ⟨w.heap.size + 1 + 1, 2, none⟩ = some (.string ⟨#[]⟩) := by simpa [zeroF] using hI5.cell 2
  have z3 : w2.cell? ⟨w.heap.size + 1 + 1, 3, none⟩ = some (.slice none 0 0) := by simpa [zeroF] using hI5.cell 3
  have z4 : w2.cell? ⟨w.heap.size + 1 + 1, 4, none⟩ = some (.slice none 0 0) := by simpa [zeroF] using hI5.cell 4
  have fz : ∀ i, w2.frozen? ⟨w.heap.size + 1 + 1, i, none⟩ = false := fun i => hI5.frozen i
  have g0 := fz 0
  have g1 := fz 1
  have g2 := fz 2
  have g3 := fz 3
  have g4 := fz 4
  have HR := Lib.hid hres
  have HW := Lib.hid (show Went g s k' n' w w2 from ⟨hI1, hP'⟩)
  clear hres hI1 hI2 hI3 hI4 hI5 hI6 hI7 hI8 hI9 hI10 hP' fz
  go_wp2_with fail
  refine bodyPost_ret (v := cellsOf (V.mk 5 0 ⟨#[]⟩ acc.2 acc.1) A c K q) (by simp [results, Tryz.results53, go_sem, cellsOf, V.kind, V.int, V.text, V.items, V.keys, z0, z1, z2, z3, z4]) rfl ?_
  rw [hst]
  refine ⟨A, c, K, q, k', rfl, HR.out _ (fun b h1 h2 => put5_heap w2 (w.heap.size + 1 + 1) 0 _ _ _ _ _ (by omega)) (Nat.le_of_eq (put5_size w2 (w.heap.size + 1 + 1) 0 _ _ _ _ _).symm), hk', hsk, ?_⟩
  exact ((((HW.out.set hg _ _ (by simp; omega)).set hg _ _ (by simp; omega)).set hg _ _ (by simp; omega)).set hg _ _ (by simp; omega)).set hg _ _ (by simp; omega)
end Go.Proofs.YtfiiaeomlmckfaaGreatDoor
