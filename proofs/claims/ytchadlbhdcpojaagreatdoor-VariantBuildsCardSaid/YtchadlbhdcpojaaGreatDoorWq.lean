/- Putting a value into a row of values, a text into a row of texts. -/
import Derived.Test.YtchadlbhdcpojaaGreatDoorMa
import Derived.Test.YtchadlbhdcpojaaGreatDoorRa
import Derived.Shelf.Spec.SlicesInsert
namespace Go.Proofs.YtchadlbhdcpojaaGreatDoor
open Go.RowKit

set_option maxRecDepth 100000 in
set_option maxHeartbeats 4000000 in
theorem ins_endV (w : World) (base : Nat) (v : Value) (n : Nat) (xs : List Value) (vb : Nat) (cs : Array Value) (hown : w.ownsRow base 27 5 v n xs) (hn : n ≤ 10000) (hv : BlockIs w vb 27 cs) (hcs : cs.size = 5) (h1 : ∀ u ∈ cs.toList, u.oneCell' = true) (hbase : base ≤ w.heap.size) :
    Calls Tryz.prog 48 #[v, .int .i64 n, .slice (some ⟨vb, 0, none⟩) 1 1] w (Put w base 27 5 v n n xs cs.toList) := by
  obtain ⟨i0, hi, hz0, hz1, hz2⟩ := info_parts (P := Tryz.prog) (e := 27) (z := (.agg #[.int .i64 0, .int .i64 0, .string ⟨#[]⟩, .slice none 0 0, .slice none 0 0])) (size := 5) (bytes := 80) (by kernel_rfl)
  have hxl := hown.1
  obtain ⟨v', w', hr, hown', hgr, hwh⟩ := append_where (P := Tryz.prog) w base 24 24 27 i0 (.agg #[.int .i64 0, .int .i64 0, .string ⟨#[]⟩, .slice none 0 0, .slice none 0 0]) 5 80 Tryz.underlying24 hi hz0 hz1 hz2 rfl (by decide) v n xs hown ⟨vb, 0, none⟩ 1 1 cs.toList (by simp [hcs])
    (fun j u hj => by rw [Addr.add_lit, hv.cell]; simpa using hj) h1 (by unfold maxLen; omega) (by omega) hbase (by omega)
  have hp : Put w base 27 5 v n n xs cs.toList (.returned v') w' := by
    refine ⟨v', rfl, ?_, hgr, hwh⟩
    rw [List.take_of_length_le (by omega), List.drop_eq_nil_of_le (by omega), List.append_nil]
    exact hown'
  have HP := Lib.hid hp
  have HR := Lib.hid hr
  clear hp hr hown' hgr hwh
  obtain ⟨_, ⟨rfl, rfl⟩ | ⟨g, cap, cur, rfl, hbg, hg, hnc, hcm, hcs', htake⟩⟩ := hown
  · clear hxl hv hcs h1
    go_enter Tryz.func48, Tryz.ntmps48
    go_wp2_with (at_builtin; refine Lib.wpList_append_run _ rfl _ _ _ _ rfl _ _ rfl rfl _ _ HR.out ?_)
    go_ret
    exact HP.out
  · have hcap : cap ≤ 9223372036854775807 := by unfold maxLen at hcm; omega
    clear hxl hv hcs h1 hcs' htake hg
    go_enter Tryz.func48, Tryz.ntmps48
    go_wp2_with (at_builtin; refine Lib.wpList_append_run _ rfl _ _ _ _ rfl _ _ rfl rfl _ _ HR.out ?_)
    all_goals (go_ret; exact HP.out)

set_option maxRecDepth 100000 in
set_option maxHeartbeats 4000000 in
theorem ins_shiftV (w : World) (base g cap : Nat) (cur : Array Value) (n i : Nat) (xs : List Value) (vb : Nat) (cs : Array Value) (hi : i < n) (hn : n ≤ 10000) (hbg : base ≤ g) (hg : w.heap[g]? = some (.cells cur 27 (0, 0))) (hroom : n + 1 ≤ cap) (hcap : cap ≤ maxLen) (hcur : cur.size = cap * 5)
    (hx : cur.toList.take (n * 5) = xs) (hvb : vb ≠ g) (hv : BlockIs w vb 27 cs) (hcs : cs.size = 5) (h1 : ∀ u ∈ cs.toList, u.oneCell' = true) (hx1 : ∀ u ∈ xs, u.oneCell' = true) :
    Calls Tryz.prog 48 #[.slice (some ⟨g, 0, none⟩) n cap, .int .i64 i, .slice (some ⟨vb, 0, none⟩) 1 1] w (Put w base 27 5 (.slice (some ⟨g, 0, none⟩) n cap) n i xs cs.toList) := by
  obtain ⟨i0, hi0, hz0, hz1, hz2⟩ := info_parts (P := Tryz.prog) (e := 27) (z := (.agg #[.int .i64 0, .int .i64 0, .string ⟨#[]⟩, .slice none 0 0, .slice none 0 0])) (size := 5) (bytes := 80) (by kernel_rfl)
  have hsz : (Tryz.prog.info? 27).map (·.size) = some 5 := by rw [hi0]; simp [hz1]
  have hsz' : ∀ W, (sizeOf 27).run Tryz.prog W = .ok 5 W := fun W => by simp [sizeOf, typeInfo, hi0, hz1]
  obtain ⟨c1, hc1⟩ : ∃ c1, c1 = cur.toList.take ((i + 1) * 5) ++ xs.drop (i * 5) ++ cur.toList.drop ((i + 1) * 5 + (xs.drop (i * 5)).length) := ⟨_, rfl⟩
  obtain ⟨c2, hc2⟩ : ∃ c2, c2 = c1.take (i * 5) ++ cs.toList ++ c1.drop (i * 5 + cs.toList.length) := ⟨_, rfl⟩
  have hp := put_shift (w := w) (base := base) (size := 5) (i := i) (by omega) hg hbg hcap hroom hcur hx (show cs.toList.length = 5 by simpa using hcs) c1 c2 hc1 hc2 rfl
  have hxl : xs.length = n * 5 := by rw [← hx, List.length_take, Array.length_toList, hcur]; omega
  have hdl : (xs.drop (i * 5)).length = (n - i) * 5 := by rw [List.length_drop, hxl] <;> omega
  have hg1 : (w.drew.setRow g c1.toArray).heap[g]? = some (.cells c1.toArray 27 (0, 0)) := setRow_heap w.drew g cur _ 27 _ hg
  have hc1l : c1.length = cur.size := by rw [hc1]; simp [List.length_take, hdl, hcur]; omega
  have hcp1 : ∀ ty dc sc, (Builtin.copy_ #[24, 24] ty #[.slice (some ⟨g, (i + 1) * 5, none⟩) (n - i) dc, .slice (some ⟨g, i * 5, none⟩) (n + 1 - i) sc]).run Tryz.prog w.drew = .ok (goInt (Nat.min (n + 1 - i) (n - i))) (w.drew.setRow g c1.toArray) := fun ty dc sc => by
    rw [hc1]
    refine run_copy_rowN w.drew _ _ ty 27 5 g _ _ dc ⟨g, i * 5, none⟩ _ sc cur 27 (xs.drop (i * 5)) Tryz.underlying24 hsz hg ?_ ?_ ?_ ?_
    · rw [hdl]; simp only [Nat.min_def]; split <;> omega
    · intro j u hj
      rw [Addr.add_lit, cell_of_row w.drew g _ cur 27 (0, 0) hg]
      rw [List.getElem?_drop, ← hx, List.getElem?_take] at hj
      split at hj
      · simpa using hj
      · cases hj
    · rw [hdl, hcur]; omega
    · exact fun u hu => hx1 u (List.mem_of_mem_drop hu)
  have hcp2 : ∀ ty dc, (Builtin.copy_ #[24, 24] ty #[.slice (some ⟨g, i * 5, none⟩) (n + 1 - i) dc, .slice (some ⟨vb, 0, none⟩) 1 1]).run Tryz.prog (w.drew.setRow g c1.toArray) = .ok (goInt (Nat.min 1 (n + 1 - i))) ((w.drew.setRow g c1.toArray).setRow g c2.toArray) := fun ty dc => by
    rw [hc2]
    have := run_copy_rowN (P := Tryz.prog) (w.drew.setRow g c1.toArray) 24 24 ty 27 5 g (i * 5) (n + 1 - i) dc ⟨vb, 0, none⟩ 1 1 c1.toArray 27 cs.toList Tryz.underlying24 hsz hg1 ?_ ?_ ?_ h1
    · simpa using this
    · rw [Array.length_toList, hcs]; simp only [Nat.min_def]; split <;> omega
    · intro j u hj
      rw [Addr.add_lit, World.cell?, setRow_other _ _ _ _ hvb]
      have := hv.cell (0 + j)
      rw [World.cell?] at this
      refine Eq.trans this ?_
      simpa using hj
    · rw [List.size_toArray, hc1l, hcur, Array.length_toList, hcs]; omega
  have hsA := hv.shape
  have hsB : w.shape? g = some (27, cur.size) := by simp [World.shape?, hg]
  have hov : ∀ lb cb, (callFunc 64 #[.slice (some ⟨vb, 0, none⟩) 1 1, .slice (some ⟨g, (i + 1) * 5, none⟩) lb cb]).run Tryz.prog w = .ok (.value (.bool false)) w := fun lb cb => by
    rw [run_callFunc_extern Tryz.func64 (by kernel_rfl) (by kernel_rfl) (by kernel_rfl) (e := Extern.SlicesOverlaps.overlaps #[24, 24] #[4]) (by kernel_rfl),
      Lib.run_overlaps_apart w 24 4 27 Tryz.underlying24 5 hsz' ⟨vb, 0, none⟩ ⟨g, (i + 1) * 5, none⟩ 1 1 lb cb hvb 27 27 _ _ hsA hsB (by rw [hcur]; omega) (hv.frozen 0) (hv.frozen _)]
    rfl
  have hcap' : cap ≤ 9223372036854775807 := by unfold maxLen at hcap; omega
  have HP := Lib.hid hp
  have H1 := Lib.hid hcp1
  have H2 := Lib.hid hcp2
  clear hp hcp1 hcp2 hc1 hc2 hx hg hv hcs h1 hx1 hxl hdl hg1 hc1l hsA hsB hcur
  go_enter Tryz.func48, Tryz.ntmps48
  have mixed : Tryz.prog.follows Departure.mixedOrders = true := by kernel_rfl
  have hw1 : IntKind.i64.wrap ((i : Int) + 1) = (i : Int) + 1 := by rw [IntKind.wrap_i64]; omega
  have hb1 : (0 : Int) ≤ (i : Int) + 1 := by omega
  have hin : i ≤ n := by omega
  have htn : ((i : Int) + 1).toNat = i + 1 := by omega
  have hb2 : ¬ (cap = i + 1) := by omega
  have hb3 : (i : Int) ≤ (n : Int) + 1 := by omega
  have hb4 : ¬ (cap = i) := by omega
  go_wp2_with (simp only [hov])
  go_region_law_o (refine step_copy_runI rfl _ _ 24 24 rfl (.slice (some ⟨g, (i + 1) * 5, none⟩) (n - i) (cap - (i + 1))) (.slice (some ⟨g, i * 5, none⟩) (n + 1 - i) (cap - i)) (by simp [Act.eval, Act.put]) (by simp [Act.eval, Act.put]) (H1.out 3 (cap - (i + 1)) (cap - i)) ?_)
  have h2 := H2.out 3 (cap - i)
  go_wp2
  go_ret
  exact HP.out

set_option maxRecDepth 100000 in
set_option maxHeartbeats 4000000 in
theorem ins_growV (w : World) (base g cap : Nat) (cur : Array Value) (n i : Nat) (xs : List Value) (vb : Nat) (cs : Array Value) (hi : i < n) (hn : n ≤ 10000) (hbase : base ≤ w.heap.size) (hg : w.heap[g]? = some (.cells cur 27 (0, 0))) (hnc : n ≤ cap) (hroom : cap < n + 1) (hcur : cur.size = cap * 5)
    (hx : cur.toList.take (n * 5) = xs) (hv : BlockIs w vb 27 cs) (hcs : cs.size = 5) (h1 : ∀ u ∈ cs.toList, u.oneCell' = true) (hx1 : ∀ u ∈ xs, u.oneCell' = true) :
    Calls Tryz.prog 48 #[.slice (some ⟨g, 0, none⟩) n cap, .int .i64 i, .slice (some ⟨vb, 0, none⟩) 1 1] w (Put w base 27 5 (.slice (some ⟨g, 0, none⟩) n cap) n i xs cs.toList) := by
  obtain ⟨i0, hi0, hz0, hz1, hz2⟩ := info_parts (P := Tryz.prog) (e := 27) (z := (.agg #[.int .i64 0, .int .i64 0, .string ⟨#[]⟩, .slice none 0 0, .slice none 0 0])) (size := 5) (bytes := 80) (by kernel_rfl)
  have hsz : (Tryz.prog.info? 27).map (·.size) = some 5 := by rw [hi0]; simp [hz1]
  have hxl : xs.length = n * 5 := by rw [← hx, List.length_take, Array.length_toList, hcur]; omega
  have hxc : ∀ (j : Nat) (u : Value), xs[j]? = some u → cur[j]? = some u := by
    intro j u hj
    rw [← hx, List.getElem?_take] at hj
    split at hj
    · simpa using hj
    · cases hj
  have hdl : (xs.drop (i * 5)).length = (n - i) * 5 := by rw [List.length_drop, hxl] <;> omega
  have hgw : g < w.heap.size := (Array.getElem?_eq_some_iff.1 hg).1
  have hvw := hv.lt
  obtain ⟨G, hG⟩ : ∃ G, G = grownCap w (n + 1) cap 27 := ⟨_, rfl⟩
  obtain ⟨ROW, hROW⟩ : ∃ ROW : Array Value, ROW = (xs.take (i * 5)).toArray ++ Builtin.zeroCells (Value.cells (.agg #[.int .i64 0, .int .i64 0, .string ⟨#[]⟩, .slice none 0 0, .slice none 0 0])) (n + 1 - i) ++ Builtin.zeroCells (Value.cells (.agg #[.int .i64 0, .int .i64 0, .string ⟨#[]⟩, .slice none 0 0, .slice none 0 0])) (G - (n + 1)) := ⟨_, rfl⟩
  have hGn : n + 1 ≤ G := by rw [hG]; exact grownCap_ge w _ _ _
  have hGm : G ≤ maxLen := by rw [hG]; exact grownCap_le_maxLen w (n + 1) cap 27 (by unfold maxLen; omega)
  have hold : (Builtin.firstCells i0.size i (.slice (some ⟨g, 0, none⟩) i cap)).run Tryz.prog w.drew = .ok (xs.take (i * 5)).toArray w.drew := by
    rw [hz1]
    refine run_firstCells_some w.drew 5 i ⟨g, 0, none⟩ i cap (xs.take (i * 5)) (by rw [List.length_take, hxl]; omega) (fun j u hj => ?_)
    rw [Addr.add_lit, cell_of_row w.drew g _ cur 27 (0, 0) hg]
    rw [List.getElem?_take] at hj
    split at hj
    · rw [Nat.zero_add]; exact hxc j u hj
    · cases hj
  have hrz : ∀ ty, (Builtin.append_ #[24, 3] ty #[.slice (some ⟨g, 0, none⟩) i cap, .int .i64 ((n : Int) + 1 - (i : Int))]).run Tryz.prog w = .ok (.slice (some ⟨w.heap.size, 0, none⟩) (n + 1) G) (w.drew.alloc (.cells ROW 27)) := fun ty => by
    have h := Lib.run_append_grow_zeros w 24 3 ty 27 i0 _ .i64 .i64 Tryz.underlying24 Tryz.underlying3 hi0 hz0 (some ⟨g, 0, none⟩) i cap (xs.take (i * 5)) hold (n + 1 - i) (by omega) (by omega) (by omega) (by omega) (by rw [hz2]; omega) (by rw [hz2, show i + (n + 1 - i) = n + 1 by omega]; exact growslice_fits hroom (by omega))
    rw [show i + (n + 1 - i) = n + 1 by omega, ← hG, ← hROW] at h
    rw [show (n : Int) + 1 - (i : Int) = ((n + 1 - i : Nat) : Int) by omega]
    exact h
  have hRs : ROW.size = G * 5 := by
    rw [hROW]
    simp only [Array.size_append, List.size_toArray, List.length_take, hxl, size_zeroCells]
    simp [Value.cells]
    omega
  have hRt : ROW.toList.take (i * 5) = xs.take (i * 5) := by
    rw [hROW, Array.toList_append, Array.toList_append, List.append_assoc, List.take_left' (by simp [hxl]; omega)]
  obtain ⟨c1, hc1⟩ : ∃ c1, c1 = ROW.toList.take (i * 5) ++ cs.toList ++ ROW.toList.drop (i * 5 + cs.toList.length) := ⟨_, rfl⟩
  obtain ⟨c2, hc2⟩ : ∃ c2, c2 = c1.take ((i + 1) * 5) ++ xs.drop (i * 5) ++ c1.drop ((i + 1) * 5 + (xs.drop (i * 5)).length) := ⟨_, rfl⟩
  have hp := put_grow (w := w) (base := base) (e := 27) (size := 5) (i := i) (g := g) (cap := cap) (Nat.le_of_lt hi) hbase hGm hGn hRs hRt hxl (show cs.toList.length = 5 by simpa using hcs) (w' := (((w.alloc (.cells ROW 27)).drew.setRow w.heap.size c1.toArray).drew).setRow w.heap.size c2.toArray) c1 c2 hc1 hc2 ⟨2, 0, rfl⟩
  have hg0 : ((w.alloc (.cells ROW 27)).drew).heap[w.heap.size]? = some (.cells ROW 27 (0, 0)) := heap_alloc_new w _
  have hg1 : (((w.alloc (.cells ROW 27)).drew.setRow w.heap.size c1.toArray).drew).heap[w.heap.size]? = some (.cells c1.toArray 27 (0, 0)) := setRow_heap _ _ _ _ 27 _ hg0
  have hc1l : c1.length = ROW.size := by rw [hc1]; simp [List.length_take, hcs, hRs]; omega
  have hcpA : ∀ ty dc, (Builtin.copy_ #[24, 24] ty #[.slice (some ⟨w.heap.size, i * 5, none⟩) (n + 1 - i) dc, .slice (some ⟨vb, 0, none⟩) 1 1]).run Tryz.prog (w.alloc (.cells ROW 27)).drew = .ok (goInt (Nat.min 1 (n + 1 - i))) ((w.alloc (.cells ROW 27)).drew.setRow w.heap.size c1.toArray) := fun ty dc => by
    rw [hc1]
    refine run_copy_rowN (P := Tryz.prog) _ 24 24 ty 27 5 w.heap.size (i * 5) (n + 1 - i) dc ⟨vb, 0, none⟩ 1 1 ROW 27 cs.toList Tryz.underlying24 hsz hg0 ?_ ?_ ?_ h1
    · rw [Array.length_toList, hcs]; simp only [Nat.min_def]; split <;> omega
    · intro j u hj
      rw [Addr.add_lit]
      have := (hv.alloc (.cells ROW 27)).cell (0 + j)
      refine Eq.trans this ?_
      simpa using hj
    · rw [hRs, Array.length_toList, hcs]; omega
  have hcpB : ∀ ty dc sc, (Builtin.copy_ #[24, 24] ty #[.slice (some ⟨w.heap.size, (i + 1) * 5, none⟩) (n - i) dc, .slice (some ⟨g, i * 5, none⟩) (n - i) sc]).run Tryz.prog (((w.alloc (.cells ROW 27)).drew.setRow w.heap.size c1.toArray).drew) = .ok (goInt (Nat.min (n - i) (n - i))) ((((w.alloc (.cells ROW 27)).drew.setRow w.heap.size c1.toArray).drew).setRow w.heap.size c2.toArray) := fun ty dc sc => by
    rw [hc2]
    have := run_copy_rowN (P := Tryz.prog) (((w.alloc (.cells ROW 27)).drew.setRow w.heap.size c1.toArray).drew) 24 24 ty 27 5 w.heap.size ((i + 1) * 5) (n - i) dc ⟨g, i * 5, none⟩ (n - i) sc c1.toArray 27 (xs.drop (i * 5)) Tryz.underlying24 hsz hg1 ?_ ?_ ?_ (fun u hu => hx1 u (List.mem_of_mem_drop hu))
    · simpa using this
    · rw [hdl]; simp only [Nat.min_def]; split <;> omega
    · intro j u hj
      have e1 : (((w.alloc (.cells ROW 27)).drew.setRow w.heap.size c1.toArray).drew).heap[g]? = some (.cells cur 27 (0, 0)) := by
        show ((w.alloc (.cells ROW 27)).setRow w.heap.size c1.toArray).heap[g]? = _
        rw [setRow_other _ _ _ _ (by omega), heap_alloc_old w _ hgw]
        exact hg
      rw [Addr.add_lit, cell_of_row _ g _ cur 27 (0, 0) e1]
      rw [List.getElem?_drop] at hj
      exact hxc _ u hj
    · rw [List.size_toArray, hc1l, hRs, hdl]; omega
  have HP := Lib.hid hp
  have HZ := Lib.hid hrz
  have HA := Lib.hid hcpA
  have HB := Lib.hid hcpB
  have hG63 : G ≤ 9223372036854775807 := by unfold maxLen at hGm; omega
  have hcz : cap = n := by omega
  clear hp hrz hcpA hcpB hc1 hc2 hx hg hv hcs h1 hx1 hxl hdl hg0 hg1 hc1l hcur hxc hG hROW hGm hold hRs hRt hgw hvw
  have mixed : Tryz.prog.follows Departure.mixedOrders = true := by kernel_rfl
  have hw1 : IntKind.i64.wrap ((i : Int) + 1) = (i : Int) + 1 := by rw [IntKind.wrap_i64]; omega
  have hb1 : (0 : Int) ≤ (i : Int) + 1 := by omega
  have hin : i ≤ n := by omega
  have htn : ((i : Int) + 1).toNat = i + 1 := by omega
  have hb3 : (i : Int) ≤ (n : Int) := by omega
  have hz3 : (cap : Int) < (n : Int) + 1 := by omega
  have hGi : ¬ (G = i) := by omega
  have hGim : ¬ (G = i + 1) := by omega
  have hci : ¬ (cap = i) := by omega
  have hA := HA.out 3 (G - i)
  clear hcz
  go_enter Tryz.func48, Tryz.ntmps48
  go_wp2_with (at_builtin; refine Lib.wpList_append_run _ rfl _ _ _ _ rfl _ _ rfl rfl _ _ (HZ.out _) ?_)
  go_region_law_o (refine step_copy_runI rfl _ _ 24 24 rfl (.slice (some ⟨w.heap.size, (i + 1) * 5, none⟩) (n - i) (G - (i + 1))) (.slice (some ⟨g, i * 5, none⟩) (n - i) (cap - i)) (by simp [Act.eval, Act.put]) (by simp [Act.eval, Act.put]) (HB.out 3 (G - (i + 1)) (cap - i)) ?_)
  go_wp2
  go_ret
  exact HP.out

theorem insV (w : World) (base : Nat) (v : Value) (n i : Nat) (xs : List Value) (vb : Nat) (cs : Array Value) (hown : w.ownsRow base 27 5 v n xs) (hi : i ≤ n) (hn : n ≤ 10000) (hne : some vb ≠ v.ownBlock) (hv : BlockIs w vb 27 cs) (hcs : cs.size = 5) (h1 : ∀ u ∈ cs.toList, u.oneCell' = true) (hx1 : ∀ u ∈ xs, u.oneCell' = true) (hbase : base ≤ w.heap.size) :
    Calls Tryz.prog 48 #[v, .int .i64 i, .slice (some ⟨vb, 0, none⟩) 1 1] w (Put w base 27 5 v n i xs cs.toList) := by
  rcases Nat.lt_or_ge i n with h | h
  · obtain ⟨hl, ⟨rfl, h0⟩ | ⟨g, cap, cur, rfl, hbg, hg, hnc, hcm, hcs', htake⟩⟩ := hown
    · omega
    · by_cases hroom : n + 1 ≤ cap
      · exact ins_shiftV w base g cap cur n i xs vb cs h hn hbg hg hroom hcm (by simpa using hcs') (by simpa using htake) (fun e => hne (by rw [e]; rfl)) hv hcs h1 hx1
      · exact ins_growV w base g cap cur n i xs vb cs h hn hbase hg hnc (by omega) (by simpa using hcs') (by simpa using htake) hv hcs h1 hx1
  · have e : i = n := by omega
    subst e
    exact ins_endV w base v i xs vb cs hown hn hv hcs h1 hbase

set_option maxRecDepth 100000 in
set_option maxHeartbeats 4000000 in
theorem ins_endS (w : World) (base : Nat) (v : Value) (n : Nat) (xs : List Value) (vb : Nat) (cs : Array Value) (hown : w.ownsRow base 9 1 v n xs) (hn : n ≤ 10000) (hv : BlockIs w vb 9 cs) (hcs : cs.size = 1) (h1 : ∀ u ∈ cs.toList, u.oneCell' = true) (hbase : base ≤ w.heap.size) :
    Calls Tryz.prog 49 #[v, .int .i64 n, .slice (some ⟨vb, 0, none⟩) 1 1] w (Put w base 9 1 v n n xs cs.toList) := by
  obtain ⟨i0, hi, hz0, hz1, hz2⟩ := info_parts (P := Tryz.prog) (e := 9) (z := (.string ⟨#[]⟩)) (size := 1) (bytes := 16) (by kernel_rfl)
  have hxl := hown.1
  obtain ⟨v', w', hr, hown', hgr, hwh⟩ := append_where (P := Tryz.prog) w base 25 25 9 i0 (.string ⟨#[]⟩) 1 16 Tryz.underlying25 hi hz0 hz1 hz2 rfl (by decide) v n xs hown ⟨vb, 0, none⟩ 1 1 cs.toList (by simp [hcs])
    (fun j u hj => by rw [Addr.add_lit, hv.cell]; simpa using hj) h1 (by unfold maxLen; omega) (by omega) hbase (by omega)
  have hp : Put w base 9 1 v n n xs cs.toList (.returned v') w' := by
    refine ⟨v', rfl, ?_, hgr, hwh⟩
    rw [List.take_of_length_le (by omega), List.drop_eq_nil_of_le (by omega), List.append_nil]
    exact hown'
  have HP := Lib.hid hp
  have HR := Lib.hid hr
  clear hp hr hown' hgr hwh
  obtain ⟨_, ⟨rfl, rfl⟩ | ⟨g, cap, cur, rfl, hbg, hg, hnc, hcm, hcs', htake⟩⟩ := hown
  · clear hxl hv hcs h1
    go_enter Tryz.func49, Tryz.ntmps49
    go_wp2_with (at_builtin; refine Lib.wpList_append_run _ rfl _ _ _ _ rfl _ _ rfl rfl _ _ HR.out ?_)
    go_ret
    exact HP.out
  · have hcap : cap ≤ 9223372036854775807 := by unfold maxLen at hcm; omega
    clear hxl hv hcs h1 hcs' htake hg
    go_enter Tryz.func49, Tryz.ntmps49
    go_wp2_with (at_builtin; refine Lib.wpList_append_run _ rfl _ _ _ _ rfl _ _ rfl rfl _ _ HR.out ?_)
    all_goals (go_ret; exact HP.out)

set_option maxRecDepth 100000 in
set_option maxHeartbeats 4000000 in
theorem ins_shiftS (w : World) (base g cap : Nat) (cur : Array Value) (n i : Nat) (xs : List Value) (vb : Nat) (cs : Array Value) (hi : i < n) (hn : n ≤ 10000) (hbg : base ≤ g) (hg : w.heap[g]? = some (.cells cur 9 (0, 0))) (hroom : n + 1 ≤ cap) (hcap : cap ≤ maxLen) (hcur : cur.size = cap)
    (hx : cur.toList.take (n) = xs) (hvb : vb ≠ g) (hv : BlockIs w vb 9 cs) (hcs : cs.size = 1) (h1 : ∀ u ∈ cs.toList, u.oneCell' = true) (hx1 : ∀ u ∈ xs, u.oneCell' = true) :
    Calls Tryz.prog 49 #[.slice (some ⟨g, 0, none⟩) n cap, .int .i64 i, .slice (some ⟨vb, 0, none⟩) 1 1] w (Put w base 9 1 (.slice (some ⟨g, 0, none⟩) n cap) n i xs cs.toList) := by
  obtain ⟨i0, hi0, hz0, hz1, hz2⟩ := info_parts (P := Tryz.prog) (e := 9) (z := (.string ⟨#[]⟩)) (size := 1) (bytes := 16) (by kernel_rfl)
  have hsz : (Tryz.prog.info? 9).map (·.size) = some 1 := by rw [hi0]; simp [hz1]
  have hsz' : ∀ W, (sizeOf 9).run Tryz.prog W = .ok 1 W := fun W => by simp [sizeOf, typeInfo, hi0, hz1]
  obtain ⟨c1, hc1⟩ : ∃ c1, c1 = cur.toList.take ((i + 1)) ++ xs.drop (i) ++ cur.toList.drop ((i + 1) + (xs.drop (i)).length) := ⟨_, rfl⟩
  obtain ⟨c2, hc2⟩ : ∃ c2, c2 = c1.take (i) ++ cs.toList ++ c1.drop (i + cs.toList.length) := ⟨_, rfl⟩
  have hp := put_shift (w := w) (base := base) (size := 1) (i := i) (by omega) hg hbg hcap hroom (by simpa using hcur) (by simpa using hx) (show cs.toList.length = 1 by simpa using hcs) c1 c2 (by simpa using hc1) (by simpa using hc2) rfl
  have hxl : xs.length = n := by rw [← hx, List.length_take, Array.length_toList, hcur]; omega
  have hdl : (xs.drop (i)).length = (n - i) := by rw [List.length_drop, hxl] <;> omega
  have hg1 : (w.drew.setRow g c1.toArray).heap[g]? = some (.cells c1.toArray 9 (0, 0)) := setRow_heap w.drew g cur _ 9 _ hg
  have hc1l : c1.length = cur.size := by rw [hc1]; simp [List.length_take, hdl, hcur]; omega
  have hcp1 : ∀ ty dc sc, (Builtin.copy_ #[25, 25] ty #[.slice (some ⟨g, (i + 1), none⟩) (n - i) dc, .slice (some ⟨g, i, none⟩) (n + 1 - i) sc]).run Tryz.prog w.drew = .ok (goInt (Nat.min (n + 1 - i) (n - i))) (w.drew.setRow g c1.toArray) := fun ty dc sc => by
    rw [hc1]
    refine run_copy_rowN w.drew _ _ ty 9 1 g _ _ dc ⟨g, i, none⟩ _ sc cur 9 (xs.drop (i)) Tryz.underlying25 hsz hg ?_ ?_ ?_ ?_
    · rw [hdl]; simp only [Nat.min_def]; split <;> omega
    · intro j u hj
      rw [Addr.add_lit, cell_of_row w.drew g _ cur 9 (0, 0) hg]
      rw [List.getElem?_drop, ← hx, List.getElem?_take] at hj
      split at hj
      · simpa using hj
      · cases hj
    · rw [hdl, hcur]; omega
    · exact fun u hu => hx1 u (List.mem_of_mem_drop hu)
  have hcp2 : ∀ ty dc, (Builtin.copy_ #[25, 25] ty #[.slice (some ⟨g, i, none⟩) (n + 1 - i) dc, .slice (some ⟨vb, 0, none⟩) 1 1]).run Tryz.prog (w.drew.setRow g c1.toArray) = .ok (goInt (Nat.min 1 (n + 1 - i))) ((w.drew.setRow g c1.toArray).setRow g c2.toArray) := fun ty dc => by
    rw [hc2]
    have := run_copy_rowN (P := Tryz.prog) (w.drew.setRow g c1.toArray) 25 25 ty 9 1 g (i) (n + 1 - i) dc ⟨vb, 0, none⟩ 1 1 c1.toArray 9 cs.toList Tryz.underlying25 hsz hg1 ?_ ?_ ?_ h1
    · simpa using this
    · rw [Array.length_toList, hcs]; simp only [Nat.min_def]; split <;> omega
    · intro j u hj
      rw [Addr.add_lit, World.cell?, setRow_other _ _ _ _ hvb]
      have := hv.cell (0 + j)
      rw [World.cell?] at this
      refine Eq.trans this ?_
      simpa using hj
    · rw [List.size_toArray, hc1l, hcur, Array.length_toList, hcs]; omega
  have hsA := hv.shape
  have hsB : w.shape? g = some (9, cur.size) := by simp [World.shape?, hg]
  have hov : ∀ lb cb, (callFunc 66 #[.slice (some ⟨vb, 0, none⟩) 1 1, .slice (some ⟨g, (i + 1), none⟩) lb cb]).run Tryz.prog w = .ok (.value (.bool false)) w := fun lb cb => by
    rw [run_callFunc_extern Tryz.func66 (by kernel_rfl) (by kernel_rfl) (by kernel_rfl) (e := Extern.SlicesOverlaps.overlaps #[25, 25] #[4]) (by kernel_rfl),
      Lib.run_overlaps_apart w 25 4 9 Tryz.underlying25 1 hsz' ⟨vb, 0, none⟩ ⟨g, (i + 1), none⟩ 1 1 lb cb hvb 9 9 _ _ hsA hsB (by rw [hcur]; omega) (hv.frozen 0) (hv.frozen _)]
    rfl
  have hcap' : cap ≤ 9223372036854775807 := by unfold maxLen at hcap; omega
  have HP := Lib.hid hp
  have H1 := Lib.hid hcp1
  have H2 := Lib.hid hcp2
  clear hp hcp1 hcp2 hc1 hc2 hx hg hv hcs h1 hx1 hxl hdl hg1 hc1l hsA hsB hcur
  go_enter Tryz.func49, Tryz.ntmps49
  have mixed : Tryz.prog.follows Departure.mixedOrders = true := by kernel_rfl
  have hw1 : IntKind.i64.wrap ((i : Int) + 1) = (i : Int) + 1 := by rw [IntKind.wrap_i64]; omega
  have hb1 : (0 : Int) ≤ (i : Int) + 1 := by omega
  have hin : i ≤ n := by omega
  have htn : ((i : Int) + 1).toNat = i + 1 := by omega
  have hb2 : ¬ (cap = i + 1) := by omega
  have hb3 : (i : Int) ≤ (n : Int) + 1 := by omega
  have hb4 : ¬ (cap = i) := by omega
  go_wp2_with (simp only [hov])
  go_region_law_o (refine step_copy_runI rfl _ _ 25 25 rfl (.slice (some ⟨g, (i + 1), none⟩) (n - i) (cap - (i + 1))) (.slice (some ⟨g, i, none⟩) (n + 1 - i) (cap - i)) (by simp [Act.eval, Act.put]) (by simp [Act.eval, Act.put]) (H1.out 3 (cap - (i + 1)) (cap - i)) ?_)
  have h2 := H2.out 3 (cap - i)
  go_wp2
  go_ret
  exact HP.out

set_option maxRecDepth 100000 in
set_option maxHeartbeats 4000000 in
theorem ins_growS (w : World) (base g cap : Nat) (cur : Array Value) (n i : Nat) (xs : List Value) (vb : Nat) (cs : Array Value) (hi : i < n) (hn : n ≤ 10000) (hbase : base ≤ w.heap.size) (hg : w.heap[g]? = some (.cells cur 9 (0, 0))) (hnc : n ≤ cap) (hroom : cap < n + 1) (hcur : cur.size = cap)
    (hx : cur.toList.take (n) = xs) (hv : BlockIs w vb 9 cs) (hcs : cs.size = 1) (h1 : ∀ u ∈ cs.toList, u.oneCell' = true) (hx1 : ∀ u ∈ xs, u.oneCell' = true) :
    Calls Tryz.prog 49 #[.slice (some ⟨g, 0, none⟩) n cap, .int .i64 i, .slice (some ⟨vb, 0, none⟩) 1 1] w (Put w base 9 1 (.slice (some ⟨g, 0, none⟩) n cap) n i xs cs.toList) := by
  obtain ⟨i0, hi0, hz0, hz1, hz2⟩ := info_parts (P := Tryz.prog) (e := 9) (z := (.string ⟨#[]⟩)) (size := 1) (bytes := 16) (by kernel_rfl)
  have hsz : (Tryz.prog.info? 9).map (·.size) = some 1 := by rw [hi0]; simp [hz1]
  have hxl : xs.length = n := by rw [← hx, List.length_take, Array.length_toList, hcur]; omega
  have hxc : ∀ (j : Nat) (u : Value), xs[j]? = some u → cur[j]? = some u := by
    intro j u hj
    rw [← hx, List.getElem?_take] at hj
    split at hj
    · simpa using hj
    · cases hj
  have hdl : (xs.drop (i)).length = (n - i) := by rw [List.length_drop, hxl] <;> omega
  have hgw : g < w.heap.size := (Array.getElem?_eq_some_iff.1 hg).1
  have hvw := hv.lt
  obtain ⟨G, hG⟩ : ∃ G, G = grownCap w (n + 1) cap 9 := ⟨_, rfl⟩
  obtain ⟨ROW, hROW⟩ : ∃ ROW : Array Value, ROW = (xs.take (i)).toArray ++ Builtin.zeroCells (Value.cells (.string ⟨#[]⟩)) (n + 1 - i) ++ Builtin.zeroCells (Value.cells (.string ⟨#[]⟩)) (G - (n + 1)) := ⟨_, rfl⟩
  have hGn : n + 1 ≤ G := by rw [hG]; exact grownCap_ge w _ _ _
  have hGm : G ≤ maxLen := by rw [hG]; exact grownCap_le_maxLen w (n + 1) cap 9 (by unfold maxLen; omega)
  have hold : (Builtin.firstCells i0.size i (.slice (some ⟨g, 0, none⟩) i cap)).run Tryz.prog w.drew = .ok (xs.take (i)).toArray w.drew := by
    rw [hz1]
    refine run_firstCells_some w.drew 1 i ⟨g, 0, none⟩ i cap (xs.take (i)) (by rw [List.length_take, hxl]; omega) (fun j u hj => ?_)
    rw [Addr.add_lit, cell_of_row w.drew g _ cur 9 (0, 0) hg]
    rw [List.getElem?_take] at hj
    split at hj
    · rw [Nat.zero_add]; exact hxc j u hj
    · cases hj
  have hrz : ∀ ty, (Builtin.append_ #[25, 3] ty #[.slice (some ⟨g, 0, none⟩) i cap, .int .i64 ((n : Int) + 1 - (i : Int))]).run Tryz.prog w = .ok (.slice (some ⟨w.heap.size, 0, none⟩) (n + 1) G) (w.drew.alloc (.cells ROW 9)) := fun ty => by
    have h := Lib.run_append_grow_zeros w 25 3 ty 9 i0 _ .i64 .i64 Tryz.underlying25 Tryz.underlying3 hi0 hz0 (some ⟨g, 0, none⟩) i cap (xs.take (i)) hold (n + 1 - i) (by omega) (by omega) (by omega) (by omega) (by rw [hz2]; omega) (by rw [hz2, show i + (n + 1 - i) = n + 1 by omega]; exact growslice_fits hroom (by omega))
    rw [show i + (n + 1 - i) = n + 1 by omega, ← hG, ← hROW] at h
    rw [show (n : Int) + 1 - (i : Int) = ((n + 1 - i : Nat) : Int) by omega]
    exact h
  have hRs : ROW.size = G := by
    rw [hROW]
    simp only [Array.size_append, List.size_toArray, List.length_take, hxl, size_zeroCells]
    simp [Value.cells]
    omega
  have hRt : ROW.toList.take (i) = xs.take (i) := by
    rw [hROW, Array.toList_append, Array.toList_append, List.append_assoc, List.take_left' (by simp [hxl]; omega)]
  obtain ⟨c1, hc1⟩ : ∃ c1, c1 = ROW.toList.take (i) ++ cs.toList ++ ROW.toList.drop (i + cs.toList.length) := ⟨_, rfl⟩
  obtain ⟨c2, hc2⟩ : ∃ c2, c2 = c1.take ((i + 1)) ++ xs.drop (i) ++ c1.drop ((i + 1) + (xs.drop (i)).length) := ⟨_, rfl⟩
  have hp := put_grow (w := w) (base := base) (e := 9) (size := 1) (i := i) (g := g) (cap := cap) (Nat.le_of_lt hi) hbase hGm hGn (by simpa using hRs) (by simpa using hRt) (by simpa using hxl) (show cs.toList.length = 1 by simpa using hcs) (w' := (((w.alloc (.cells ROW 9)).drew.setRow w.heap.size c1.toArray).drew).setRow w.heap.size c2.toArray) c1 c2 (by simpa using hc1) (by simpa using hc2) ⟨2, 0, rfl⟩
  have hg0 : ((w.alloc (.cells ROW 9)).drew).heap[w.heap.size]? = some (.cells ROW 9 (0, 0)) := heap_alloc_new w _
  have hg1 : (((w.alloc (.cells ROW 9)).drew.setRow w.heap.size c1.toArray).drew).heap[w.heap.size]? = some (.cells c1.toArray 9 (0, 0)) := setRow_heap _ _ _ _ 9 _ hg0
  have hc1l : c1.length = ROW.size := by rw [hc1]; simp [List.length_take, hcs, hRs]; omega
  have hcpA : ∀ ty dc, (Builtin.copy_ #[25, 25] ty #[.slice (some ⟨w.heap.size, i, none⟩) (n + 1 - i) dc, .slice (some ⟨vb, 0, none⟩) 1 1]).run Tryz.prog (w.alloc (.cells ROW 9)).drew = .ok (goInt (Nat.min 1 (n + 1 - i))) ((w.alloc (.cells ROW 9)).drew.setRow w.heap.size c1.toArray) := fun ty dc => by
    rw [hc1]
    refine run_copy_rowN (P := Tryz.prog) _ 25 25 ty 9 1 w.heap.size (i) (n + 1 - i) dc ⟨vb, 0, none⟩ 1 1 ROW 9 cs.toList Tryz.underlying25 hsz hg0 ?_ ?_ ?_ h1
    · rw [Array.length_toList, hcs]; simp only [Nat.min_def]; split <;> omega
    · intro j u hj
      rw [Addr.add_lit]
      have := (hv.alloc (.cells ROW 9)).cell (0 + j)
      refine Eq.trans this ?_
      simpa using hj
    · rw [hRs, Array.length_toList, hcs]; omega
  have hcpB : ∀ ty dc sc, (Builtin.copy_ #[25, 25] ty #[.slice (some ⟨w.heap.size, (i + 1), none⟩) (n - i) dc, .slice (some ⟨g, i, none⟩) (n - i) sc]).run Tryz.prog (((w.alloc (.cells ROW 9)).drew.setRow w.heap.size c1.toArray).drew) = .ok (goInt (Nat.min (n - i) (n - i))) ((((w.alloc (.cells ROW 9)).drew.setRow w.heap.size c1.toArray).drew).setRow w.heap.size c2.toArray) := fun ty dc sc => by
    rw [hc2]
    have := run_copy_rowN (P := Tryz.prog) (((w.alloc (.cells ROW 9)).drew.setRow w.heap.size c1.toArray).drew) 25 25 ty 9 1 w.heap.size ((i + 1)) (n - i) dc ⟨g, i, none⟩ (n - i) sc c1.toArray 9 (xs.drop (i)) Tryz.underlying25 hsz hg1 ?_ ?_ ?_ (fun u hu => hx1 u (List.mem_of_mem_drop hu))
    · simpa using this
    · rw [hdl]; simp only [Nat.min_def]; split <;> omega
    · intro j u hj
      have e1 : (((w.alloc (.cells ROW 9)).drew.setRow w.heap.size c1.toArray).drew).heap[g]? = some (.cells cur 9 (0, 0)) := by
        show ((w.alloc (.cells ROW 9)).setRow w.heap.size c1.toArray).heap[g]? = _
        rw [setRow_other _ _ _ _ (by omega), heap_alloc_old w _ hgw]
        exact hg
      rw [Addr.add_lit, cell_of_row _ g _ cur 9 (0, 0) e1]
      rw [List.getElem?_drop] at hj
      exact hxc _ u hj
    · rw [List.size_toArray, hc1l, hRs, hdl]; omega
  have HP := Lib.hid hp
  have HZ := Lib.hid hrz
  have HA := Lib.hid hcpA
  have HB := Lib.hid hcpB
  have hG63 : G ≤ 9223372036854775807 := by unfold maxLen at hGm; omega
  have hcz : cap = n := by omega
  clear hp hrz hcpA hcpB hc1 hc2 hx hg hv hcs h1 hx1 hxl hdl hg0 hg1 hc1l hcur hxc hG hROW hGm hold hRs hRt hgw hvw
  have mixed : Tryz.prog.follows Departure.mixedOrders = true := by kernel_rfl
  have hw1 : IntKind.i64.wrap ((i : Int) + 1) = (i : Int) + 1 := by rw [IntKind.wrap_i64]; omega
  have hb1 : (0 : Int) ≤ (i : Int) + 1 := by omega
  have hin : i ≤ n := by omega
  have htn : ((i : Int) + 1).toNat = i + 1 := by omega
  have hb3 : (i : Int) ≤ (n : Int) := by omega
  have hz3 : (cap : Int) < (n : Int) + 1 := by omega
  have hGi : ¬ (G = i) := by omega
  have hGim : ¬ (G = i + 1) := by omega
  have hci : ¬ (cap = i) := by omega
  have hA := HA.out 3 (G - i)
  clear hcz
  go_enter Tryz.func49, Tryz.ntmps49
  go_wp2_with (at_builtin; refine Lib.wpList_append_run _ rfl _ _ _ _ rfl _ _ rfl rfl _ _ (HZ.out _) ?_)
  go_region_law_o (refine step_copy_runI rfl _ _ 25 25 rfl (.slice (some ⟨w.heap.size, (i + 1), none⟩) (n - i) (G - (i + 1))) (.slice (some ⟨g, i, none⟩) (n - i) (cap - i)) (by simp [Act.eval, Act.put]) (by simp [Act.eval, Act.put]) (HB.out 3 (G - (i + 1)) (cap - i)) ?_)
  go_wp2
  go_ret
  exact HP.out

theorem insS (w : World) (base : Nat) (v : Value) (n i : Nat) (xs : List Value) (vb : Nat) (cs : Array Value) (hown : w.ownsRow base 9 1 v n xs) (hi : i ≤ n) (hn : n ≤ 10000) (hne : some vb ≠ v.ownBlock) (hv : BlockIs w vb 9 cs) (hcs : cs.size = 1) (h1 : ∀ u ∈ cs.toList, u.oneCell' = true) (hx1 : ∀ u ∈ xs, u.oneCell' = true) (hbase : base ≤ w.heap.size) :
    Calls Tryz.prog 49 #[v, .int .i64 i, .slice (some ⟨vb, 0, none⟩) 1 1] w (Put w base 9 1 v n i xs cs.toList) := by
  rcases Nat.lt_or_ge i n with h | h
  · obtain ⟨hl, ⟨rfl, h0⟩ | ⟨g, cap, cur, rfl, hbg, hg, hnc, hcm, hcs', htake⟩⟩ := hown
    · omega
    · by_cases hroom : n + 1 ≤ cap
      · exact ins_shiftS w base g cap cur n i xs vb cs h hn hbg hg hroom hcm (by simpa using hcs') (by simpa using htake) (fun e => hne (by rw [e]; rfl)) hv hcs h1 hx1
      · exact ins_growS w base g cap cur n i xs vb cs h hn hbase hg hnc (by omega) (by simpa using hcs') (by simpa using htake) hv hcs h1 hx1
  · have e : i = n := by omega
    subst e
    exact ins_endS w base v i xs vb cs hown hn hv hcs h1 hbase
end Go.Proofs.YtchadlbhdcpojaaGreatDoor
