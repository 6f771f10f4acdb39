/- The meter. -/
import Derived.Test.YtchadlbhdcpojaaGreatDoorWa
import Derived.Test.YtchadlbhdcpojaaGreatDoorMa
import Derived.Deep.LoopGhost
import Derived.Deep.AppendLies
import Derived.Deep.QuietTactic
import Derived.BigQuiet
namespace Go.Proofs.YtchadlbhdcpojaaGreatDoor
open Go.RowKit

/-- What the meter says of a value. -/
def addB (x : V) (n d dep : Nat) : Bool := x.ok && decide (n + x.nodes ≤ 60) && decide (max d (dep - 1 + x.depth) ≤ 6)

def MeterPost (w : World) (pb : Nat) (b : Bool) (n d : Nat) (e : Ending) (w' : World) : Prop :=
  e = .returned (.bool b) ∧ w.grownBy w' (some pb) ∧ ∃ n' d' : Nat, BlockIs w' pb 82 #[.int .i64 n', .int .i64 d'] ∧ (b = true → n' = n ∧ d' = d)

theorem meter_set {w : World} {pb : Nat} {u v : Value} (h : BlockIs w pb 82 #[u, v]) (u' v' : Value) (o : Obj) :
    BlockIs (((w.setCell ⟨pb, 0, none⟩ u').setCell ⟨pb, 1, none⟩ v').alloc o) pb 82 #[u', v'] ∧ w.grownBy (((w.setCell ⟨pb, 0, none⟩ u').setCell ⟨pb, 1, none⟩ v').alloc o) (some pb) :=
  ⟨by
    have e := ((h.set_ 0 u').set_ 1 v').alloc o
    have e0 : (#[u, v].setIfInBounds 0 u').setIfInBounds 1 v' = #[u', v'] := by simp
    rwa [e0] at e, grow_alloc (grow_set (grow_set (World.grownBy.refl w (some pb)) ⟨pb, 0, none⟩ u' rfl) ⟨pb, 1, none⟩ v' rfl) o⟩

set_option maxRecDepth 100000 in
set_option maxHeartbeats 1000000 in
theorem add_full (k i : Int) (t : ByteArray) (nn mm : Nat) (A K : Option Addr) (c dd : Nat) (w : World) (pb d dep : Nat) (h : BlockIs w pb 82 #[.int .i64 60, .int .i64 d]) :
    Calls Tryz.prog 47 #[.pointer (some ⟨pb, 0, none⟩), .agg #[.int .i64 k, .int .i64 i, .string t, .slice A nn c, .slice K mm dd], .int .i64 dep] w (MeterPost w pb false 0 0) := by
  have c0 := h.cell 0
  have c1 := h.cell 1
  have f0 := h.frozen 0
  have f1 := h.frozen 1
  have hl := h.lt
  have H := Lib.hid h
  clear h
  go_enter Tryz.func47, Tryz.ntmps47
  go_wp2_with fail
  all_goals go_ret
  all_goals go_light
  all_goals exact ⟨rfl, (meter_set H.out _ _ _).2, _, _, (meter_set H.out _ _ _).1, fun h => by cases h⟩

set_option maxRecDepth 100000 in
set_option maxHeartbeats 1000000 in
theorem add_deep (k i : Int) (t : ByteArray) (nn mm : Nat) (A K : Option Addr) (c dd : Nat) (w : World) (pb n d : Nat) (h : BlockIs w pb 82 #[.int .i64 n, .int .i64 d]) (hn : n < 60) (hd : d ≤ 6) :
    Calls Tryz.prog 47 #[.pointer (some ⟨pb, 0, none⟩), .agg #[.int .i64 k, .int .i64 i, .string t, .slice A nn c, .slice K mm dd], .int .i64 7] w (MeterPost w pb false 0 0) := by
  have c0 := h.cell 0
  have c1 := h.cell 1
  have f0 := h.frozen 0
  have f1 := h.frozen 1
  have hl := h.lt
  have H := Lib.hid h
  clear h
  go_enter Tryz.func47, Tryz.ntmps47
  go_wp2_with fail
  all_goals go_ret
  all_goals go_light
  all_goals exact ⟨rfl, (meter_set H.out _ _ _).2, n + 1, 7, (meter_set H.out _ _ _).1, fun h => by cases h⟩

/-- The facts at the head of a round. -/
structure AddAt (w : World) (pb n d dep : Nat) (items : List V) (k : Nat) (wr : World) : Prop where
  grown : w.grownBy wr (some pb)
  ok : V.okL (items.take k) = true
  nodes : n + 1 + V.nodesL (items.take k) ≤ 60
  depth : max d (dep + V.depthL (items.take k)) ≤ 6
  blk : BlockIs wr pb 82 #[.int .i64 (n + 1 + V.nodesL (items.take k) : Nat), .int .i64 (max d (dep + V.depthL (items.take k)) : Nat)]

theorem addB_mk (k i : Int) (t : ByteArray) (items : List V) (keys : List ByteArray) (n d dep : Nat) (h1 : 1 ≤ dep) :
    addB (.mk k i t items keys) n d dep = (V.sound (.mk k i t items keys) && (V.okL items && decide (n + 1 + V.nodesL items ≤ 60) && decide (max d (dep + V.depthL items) ≤ 6))) := by
  unfold addB
  rw [V.ok, V.nodes, V.depth, show n + (V.nodesL items + 1) = n + 1 + V.nodesL items by omega, show dep - 1 + (V.depthL items + 1) = dep + V.depthL items by omega]
  cases V.sound (.mk k i t items keys) <;> simp [Bool.and_assoc]

theorem addB_item {items : List V} {k : Nat} {x : V} (hx : items[k]? = some x) (n d dep : Nat) :
    addB x (n + 1 + V.nodesL (items.take k)) (max d (dep + V.depthL (items.take k))) (dep + 1) = (x.ok && decide (n + 1 + V.nodesL (items.take (k + 1)) ≤ 60) && decide (max d (dep + V.depthL (items.take (k + 1))) ≤ 6)) := by
  unfold addB
  have dp := x.depth_pos
  rw [V.nodesL_take_succ hx, V.depthL_take_succ hx, show n + 1 + V.nodesL (items.take k) + x.nodes = n + 1 + (V.nodesL (items.take k) + x.nodes) by omega,
    show max (max d (dep + V.depthL (items.take k))) (dep + 1 - 1 + x.depth) = max d (dep + max (V.depthL (items.take k)) x.depth) by omega]

theorem addB_stop {items : List V} {k : Nat} {x : V} (hx : items[k]? = some x) (n d dep : Nat) (s : Bool)
    (h : addB x (n + 1 + V.nodesL (items.take k)) (max d (dep + V.depthL (items.take k))) (dep + 1) = false) : (s && (V.okL items && decide (n + 1 + V.nodesL items ≤ 60) && decide (max d (dep + V.depthL items) ≤ 6))) = false := by
  rw [addB_item hx] at h
  cases hok : V.okL items
  · simp
  have ho := V.okL_mem hok (List.mem_of_getElem? hx)
  have a := V.nodesL_take_le items (k + 1)
  have b := V.depthL_take_le items (k + 1)
  rw [ho] at h
  simp at h ⊢
  intro _ h2
  have := h (by omega)
  omega

theorem AddAt.start {w w' : World} {pb n d dep d1 : Nat} (items : List V) (hg : w.grownBy w' (some pb)) (hb : BlockIs w' pb 82 #[.int .i64 ((n : Int) + 1), .int .i64 (d1 : Int)]) (hn : n < 60) (hd : d ≤ 6) (h7 : dep ≤ 6) (he : d1 = max d dep) : AddAt w pb n d dep items 0 w' := by
  refine ⟨hg, by simp [V.okL], by simp [V.nodesL]; omega, by simp [V.depthL]; omega, ?_⟩
  have e1 : ((n + 1 + V.nodesL (items.take 0) : Nat) : Int) = (n : Int) + 1 := by simp [V.nodesL]
  have e2 : ((max d (dep + V.depthL (items.take 0)) : Nat) : Int) = (d1 : Int) := by simp [V.depthL]; omega
  rw [e1, e2]; exact hb

theorem AddAt.next {w wr w1 : World} {pb n d dep k n1 d1 : Nat} {items : List V} {y : V} (hat : AddAt w pb n d dep items k wr) (hy : items[k]? = some y) (hg : w.grownBy w1 (some pb)) (hb : BlockIs w1 pb 82 #[.int .i64 n1, .int .i64 d1])
    (h : (y.ok && decide (n + 1 + V.nodesL (items.take (k + 1)) ≤ 60) && decide (max d (dep + V.depthL (items.take (k + 1))) ≤ 6)) = true)
    (he : n1 = n + 1 + V.nodesL (items.take k) + y.nodes ∧ d1 = max (max d (dep + V.depthL (items.take k))) (dep + 1 - 1 + y.depth)) : AddAt w pb n d dep items (k + 1) w1 := by
  simp only [Bool.and_eq_true, decide_eq_true_eq] at h
  obtain ⟨⟨h1, h2⟩, h3⟩ := h
  have en : n1 = n + 1 + V.nodesL (items.take (k + 1)) := by rw [V.nodesL_take_succ hy]; omega
  have ed : d1 = max d (dep + V.depthL (items.take (k + 1))) := by rw [V.depthL_take_succ hy]; omega
  refine ⟨hg, by rw [V.okL_take_succ hy, hat.ok, h1]; rfl, h2, h3, ?_⟩
  rw [← en, ← ed]; exact hb
theorem AddAt.last {w wr : World} {pb n d dep k : Nat} {items : List V} (hat : AddAt w pb n d dep items k wr) (hk : items.length ≤ k) :
    MeterPost w pb (true && (V.okL items && decide (n + 1 + V.nodesL items ≤ 60) && decide (max d (dep + V.depthL items) ≤ 6))) (n + 1 + V.nodesL items) (max d (dep + V.depthL items)) (.returned (.bool true)) wr := by
  have h1 := hat.ok
  have h2 := hat.nodes
  have h3 := hat.depth
  have h4 := hat.blk
  rw [List.take_of_length_le hk] at h1 h2 h3 h4
  exact ⟨ret_bool (by rw [h1, decide_eq_true h2, decide_eq_true h3]; rfl), hat.grown, _, _, h4, fun _ => ⟨rfl, rfl⟩⟩

set_option maxRecDepth 100000 in
set_option maxHeartbeats 2000000 in
theorem add_any (N : Nat) : ∀ (x : V) (w : World) (B : Nat) (A K : Option Addr) (c dd pb n d dep : Nat), x.nodes ≤ N → Lies w B x A c K dd → B ≤ pb → BlockIs w pb 82 #[.int .i64 n, .int .i64 d] → n ≤ 60 → d ≤ 6 → 1 ≤ dep → dep ≤ 7 → ∀ q : Int, q = (dep : Int) →
    Calls Tryz.prog 47 #[.pointer (some ⟨pb, 0, none⟩), .agg #[.int .i64 x.kind, .int .i64 x.int, .string x.text, .slice A x.items.length c, .slice K x.keys.length dd], .int .i64 q] w (MeterPost w pb (addB x n d dep) (n + x.nodes) (max d (dep - 1 + x.depth))) := by
  induction N with
  | zero => intro x w B A K c dd pb n d dep hx; have := x.nodes_pos; omega
  | succ N ih =>
    intro x w B A K c dd pb n d dep hx hlies hB h hn hd h1 h7 q hq
    subst hq
    have np := x.nodes_pos
    have dp := x.depth_pos
    by_cases e60 : n = 60
    · subst e60
      have e : addB x 60 d dep = false := by unfold addB; simp; omega
      rw [e]
      refine (add_full _ _ _ _ _ _ _ _ _ w pb d dep h).mono ?_
      rintro e w' ⟨h1, h2, n', d', h3, _⟩
      exact ⟨h1, h2, n', d', h3, fun h => by cases h⟩
    by_cases e7 : dep = 7
    · subst e7
      have e : addB x n d 7 = false := by unfold addB; simp; omega
      rw [e]
      refine (add_deep _ _ _ _ _ _ _ _ _ w pb n d h (by omega) hd).mono ?_
      rintro e w' ⟨h1, h2, n', d', h3, _⟩
      exact ⟨h1, h2, n', d', h3, fun h => by cases h⟩
    have c0 := h.cell 0
    have c1 := h.cell 1
    have f0 := h.frozen 0
    have f1 := h.frozen 1
    have hl := h.lt
    have H := Lib.hid h
    clear h
    obtain ⟨xk, xi, xt, items, keys⟩ := x
    have HL := Lib.hid hlies
    have HS := Lib.hid fun W (hW : w.grownBy W (some pb)) => sound_any (.mk xk xi xt items keys) W A K c dd (Lies.keep (w' := W) (B' := W.heap.size) (fun b o hb => hW.cell_far ⟨b, o, none⟩ (by simp; omega) (by simp; omega)) (by have := hW.size; omega) _ hlies)
    clear hlies
    rw [addB_mk _ _ _ _ _ _ _ _ h1, V.nodes, V.depth, show n + (V.nodesL items + 1) = n + 1 + V.nodesL items by omega, show dep - 1 + (V.depthL items + 1) = dep + V.depthL items by omega]
    rw [V.nodes] at hx
    clear np dp
    simp only [V.kind, V.int, V.text, V.items, V.keys] at HS ⊢
    obtain ⟨len, hlen⟩ : ∃ len, len = items.length := ⟨_, rfl⟩
    have HN := Lib.hid hlen
    rw [← hlen] at HS ⊢
    clear hlen
    obtain ⟨s, hs⟩ : ∃ s, s = V.sound (.mk xk xi xt items keys) := ⟨_, rfl⟩
    rw [← hs] at HS ⊢
    clear hs
    have hn' : (n : Int) + 1 ≤ 60 := by omega
    have hdep : (dep : Int) ≤ 6 := by omega
    cases s
    · by_cases hm : d < dep
      all_goals go_enter Tryz.func47, Tryz.ntmps47
      all_goals go_wp2_with fail
      all_goals refine (HS.out _ (meter_set H.out _ _ _).2).mono ?_
      all_goals rintro e w' ⟨rfl, hb⟩
      all_goals go_wp2_with fail
      all_goals go_ret
      all_goals go_light
      · exact ⟨rfl, grow_below (meter_set H.out _ _ _).2 hb, n + 1, dep, (meter_set H.out _ _ _).1.below hb (by simp; omega), fun h => by cases h⟩
      · exact ⟨rfl, grow_below (meter_set H.out _ _ _).2 hb, n + 1, d, (meter_set H.out _ _ _).1.below hb (by simp; omega), fun h => by cases h⟩
    · by_cases hm : d < dep
      all_goals go_enter Tryz.func47, Tryz.ntmps47
      all_goals go_wp2_with fail
      all_goals refine (HS.out _ (meter_set H.out _ _ _).2).mono ?_
      all_goals rintro e w' ⟨rfl, hb⟩
      all_goals have hc := bcell hb
      all_goals have hf := bfro hb
      all_goals have hz := hb.size
      all_goals simp only [World.size_alloc, World.size_setCell] at hz
      all_goals go_wp2_with fail
      all_goals have h0 : AddAt w pb n d dep items 0 w' := AddAt.start items (grow_below (meter_set H.out _ _ _).2 hb) ((meter_set H.out _ _ _).1.below hb (by simp; omega)) (by omega) hd (by omega) (by omega)
      all_goals have H0 := Lib.hid h0
      all_goals clear h0 hc hf hz hb c0 c1 f0 f1 HS
      all_goals go_loopw [45] (fun i wr => ∃ k : Nat, k ≤ len ∧ i = .int .i64 k ∧ Hid (AddAt w pb n d dep items k wr)) (fun i _ => len - (intOf i).toNat)
      case atStart => exact ⟨0, Nat.zero_le _, rfl, H0⟩
      case round =>
        obtain ⟨k, hk, rfl, hat⟩ := hrel
        have hlen : len ≤ 9223372036854775807 := by have := HL.out.items.1; have := HL.out.items.2.1; unfold maxLen at *; have := HN.out; omega
        have hg := hat.out.grown
        have HLr := Lies.keep (w' := wr) (B' := B) (fun b o hb => hg.cell_far ⟨b, o, none⟩ (by simp; omega) (by simp; omega)) (Nat.le_refl _) _ HL.out
        by_cases hlt : k < len
        · have hlt' : k < items.length := by rw [← HN.out]; exact hlt
          obtain ⟨b, o, rfl, hbB, hfrom⟩ := HLr.items.at_ (k := k) hlt'
          obtain ⟨y, hy⟩ : ∃ y, items[k]? = some y := ⟨_, List.getElem?_eq_getElem hlt'⟩
          obtain ⟨Ay, cy, Ky, dy, e0, e1, e2, e3, e4, hly⟩ := hfrom.at_ hy
          have HY := Lib.hid hy
          have HLY := Lib.hid hly
          clear hy hly hlt' HLr hfrom hg
          have hyn : y.nodes ≤ N := by have := V.nodes_mem (List.mem_of_getElem? HY.out); omega
          go_wp2_with fail
          refine (ih y _ B Ay Ky cy dy pb _ _ (dep + 1) hyn (Lies.keep (fun b o hb => World.cell?_alloc_lt _ _ _ (by have := hat.out.grown.size; simp; omega)) (Nat.le_refl _) _ HLY.out) hB (hat.out.blk.alloc _) (by have := hat.out.nodes; omega) hat.out.depth (by omega) (by omega) _ (by omega)).mono ?_
          rw [addB_item HY.out]
          rintro e w1 ⟨he, hg1, n1, d1, hb1, heq⟩
          cases hb : (y.ok && decide (n + 1 + V.nodesL (items.take (k + 1)) ≤ 60) && decide (max d (dep + V.depthL (items.take (k + 1))) ≤ 6))
          all_goals rw [hb] at he heq
          all_goals subst he
          all_goals have HB := Lib.hid hb
          all_goals have HG1 := Lib.hid (grow_trans (grow_alloc hat.out.grown _) hg1)
          all_goals have HB1 := Lib.hid hb1
          all_goals have HEQ := Lib.hid heq
          all_goals clear hb hg1 hb1 heq
          all_goals go_wp2_with fail
          · go_ret
            go_light
            refine ⟨ret_bool (addB_stop HY.out n d dep true (by rw [addB_item HY.out]; exact HB.out)).symm, HG1.out, n1, d1, HB1.out, fun h => ?_⟩
            rw [addB_stop HY.out n d dep true (by rw [addB_item HY.out]; exact HB.out)] at h
            cases h
          · go_roundw
            case rel =>
              exact ⟨k + 1, by omega, by go_num, hat.out.next HY.out HG1.out HB1.out HB.out (HEQ.out trivial)⟩
            case measure => simp [intOf]; omega
        · go_wp2_with fail
          go_ret
          go_light
          exact hat.out.last (by have := HN.out; omega)
      case atStart => exact ⟨0, Nat.zero_le _, rfl, H0⟩
      case round =>
        obtain ⟨k, hk, rfl, hat⟩ := hrel
        have hlen : len ≤ 9223372036854775807 := by have := HL.out.items.1; have := HL.out.items.2.1; unfold maxLen at *; have := HN.out; omega
        have hg := hat.out.grown
        have HLr := Lies.keep (w' := wr) (B' := B) (fun b o hb => hg.cell_far ⟨b, o, none⟩ (by simp; omega) (by simp; omega)) (Nat.le_refl _) _ HL.out
        by_cases hlt : k < len
        · have hlt' : k < items.length := by rw [← HN.out]; exact hlt
          obtain ⟨b, o, rfl, hbB, hfrom⟩ := HLr.items.at_ (k := k) hlt'
          obtain ⟨y, hy⟩ : ∃ y, items[k]? = some y := ⟨_, List.getElem?_eq_getElem hlt'⟩
          obtain ⟨Ay, cy, Ky, dy, e0, e1, e2, e3, e4, hly⟩ := hfrom.at_ hy
          have HY := Lib.hid hy
          have HLY := Lib.hid hly
          clear hy hly hlt' HLr hfrom hg
          have hyn : y.nodes ≤ N := by have := V.nodes_mem (List.mem_of_getElem? HY.out); omega
          go_wp2_with fail
          refine (ih y _ B Ay Ky cy dy pb _ _ (dep + 1) hyn (Lies.keep (fun b o hb => World.cell?_alloc_lt _ _ _ (by have := hat.out.grown.size; simp; omega)) (Nat.le_refl _) _ HLY.out) hB (hat.out.blk.alloc _) (by have := hat.out.nodes; omega) hat.out.depth (by omega) (by omega) _ (by omega)).mono ?_
          rw [addB_item HY.out]
          rintro e w1 ⟨he, hg1, n1, d1, hb1, heq⟩
          cases hb : (y.ok && decide (n + 1 + V.nodesL (items.take (k + 1)) ≤ 60) && decide (max d (dep + V.depthL (items.take (k + 1))) ≤ 6))
          all_goals rw [hb] at he heq
          all_goals subst he
          all_goals have HB := Lib.hid hb
          all_goals have HG1 := Lib.hid (grow_trans (grow_alloc hat.out.grown _) hg1)
          all_goals have HB1 := Lib.hid hb1
          all_goals have HEQ := Lib.hid heq
          all_goals clear hb hg1 hb1 heq
          all_goals go_wp2_with fail
          · go_ret
            go_light
            refine ⟨ret_bool (addB_stop HY.out n d dep true (by rw [addB_item HY.out]; exact HB.out)).symm, HG1.out, n1, d1, HB1.out, fun h => ?_⟩
            rw [addB_stop HY.out n d dep true (by rw [addB_item HY.out]; exact HB.out)] at h
            cases h
          · go_roundw
            case rel =>
              exact ⟨k + 1, by omega, by go_num, hat.out.next HY.out HG1.out HB1.out HB.out (HEQ.out trivial)⟩
            case measure => simp [intOf]; omega
        · go_wp2_with fail
          go_ret
          go_light
          exact hat.out.last (by have := HN.out; omega)
end Go.Proofs.YtchadlbhdcpojaaGreatDoor
/- Measure, Valid, Size. -/
namespace Go.Proofs.YtchadlbhdcpojaaGreatDoor
open Go.RowKit

def MeasPost (x : V) (w : World) (e : Ending) (w' : World) : Prop :=
  ∃ n' d' : Nat, e = .returned (.tuple #[.int .i64 n', .int .i64 d', .bool x.valid]) ∧ (x.valid = true → n' = x.nodes ∧ d' = x.depth) ∧ Below w.heap.size w w'

theorem addB_valid (x : V) : addB x 0 0 1 = x.valid := by
  unfold addB V.valid V.fits
  simp

set_option maxRecDepth 100000 in
set_option maxHeartbeats 1000000 in
theorem measure_any (x : V) (w : World) (A K : Option Addr) (c d : Nat) (h : Lies w w.heap.size x A c K d) :
    Calls Tryz.prog 30 #[.agg #[.int .i64 x.kind, .int .i64 x.int, .string x.text, .slice A x.items.length c, .slice K x.keys.length d]] w (MeasPost x w) := by
  have HS := Lib.hid fun W (hW : Below w.heap.size w W) (pb : Nat) hpb hblk => add_any x.nodes x W w.heap.size A K c d pb 0 0 1 (Nat.le_refl _) (h.below hW) hpb hblk (by omega) (by omega) (by omega) (by omega) 1 rfl
  go_enter Tryz.func30, Tryz.ntmps30
  go_wp2_with fail
  refine (HS.out _ ?_ _ ?_ ?_).mono ?_
  · exact ((Below.refl _ _).alloc (Nat.le_refl _) _).alloc (by simp) _
  · omega
  · exact BlockIs.newAt _ _ _ (by simp)
  rintro e w' ⟨rfl, hg, n', d', hb, heq⟩
  rw [addB_valid] at heq ⊢
  have HB := Lib.hid hb
  have HG := Lib.hid hg
  have HE := Lib.hid heq
  have b0 := hb.cell 0
  have b1 := hb.cell 1
  obtain ⟨v, hv⟩ : ∃ v, v = x.valid := ⟨_, rfl⟩
  have HV := Lib.hid hv
  rw [← hv]
  clear hb hg heq hv
  go_wp2_with fail
  go_quiet (fail)
  go_wp2_with fail
  go_ret3
  go_light
  refine ⟨n', d', by rw [← HV.out]; rfl, fun hx => by have := HE.out hx; omega, below_drewN ?_ _⟩
  exact (((Below.refl w.heap.size w).alloc (Nat.le_refl _) _).alloc (by simp) _).trans (below_grow HG.out (by simp; omega) (fun r hr => by cases hr; omega))

set_option maxHeartbeats 1000000 in
theorem valid_any (x : V) (w : World) (A K : Option Addr) (c d : Nat) (h : Lies w w.heap.size x A c K d) :
    Calls Tryz.prog 17 #[.agg #[.int .i64 x.kind, .int .i64 x.int, .string x.text, .slice A x.items.length c, .slice K x.keys.length d]] w fun e w' => e = .returned (.bool x.valid) ∧ Below w.heap.size w w' := by
  have HS := Lib.hid fun W (hW : Below w.heap.size w W) => measure_any x W A K c d (Lies.keep (bcell hW) hW.size _ h)
  go_enter Tryz.func17, Tryz.ntmps17
  go_wp2_with fail
  refine (HS.out _ ((Below.refl _ _).alloc (Nat.le_refl _) _)).mono ?_
  rintro e w' ⟨n', d', rfl, _, hb⟩
  go_wp2_with fail
  go_ret
  go_light
  exact ⟨rfl, ((Below.refl _ _).alloc (Nat.le_refl _) _).trans (hb.mono (by simp))⟩

end Go.Proofs.YtchadlbhdcpojaaGreatDoor
