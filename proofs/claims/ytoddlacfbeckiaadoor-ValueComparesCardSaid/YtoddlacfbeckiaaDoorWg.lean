/- The program's textual form of a value. -/
import Derived.Test.YtoddlacfbeckiaaDoorWf
import Derived.Test.YtoddlacfbeckiaaDoorWe
import Derived.Lib.AppendIntMem
namespace Go.Proofs.YtoddlacfbeckiaaDoor
open Go.RowKit

/-- The library's table of powers of ten. -/
def Pow (w : World) : Prop := Lib.TabIs Tryd.prog w "internal/strconv.uint64pow10" .u64 Lib.pow10Tab
theorem gPow : Tryd.prog.globalNamed "internal/strconv.uint64pow10" = some 0 := by kernel_rfl
theorem Pow.keep {w w' : World} (h : Pow w) (hb : w'.heap[0]? = w.heap[0]?) : Pow w' := by
  unfold Pow Lib.TabIs at *
  rw [← h]
  simp only [World.var?, gPow, Option.bind_some, hb]
theorem Pow.lt {w : World} (h : Pow w) : 0 < w.heap.size := by
  unfold Pow Lib.TabIs at h
  simp only [World.var?, gPow, Option.bind_some] at h
  rcases Nat.lt_or_ge 0 w.heap.size with hlt | hge
  · exact hlt
  · rw [Array.getElem?_eq_none hge] at h; cases h
theorem Pow.below {w w' : World} {B : Nat} (h : Pow w) (hb : Below B w w') (hB : 0 < B) : Pow w' := h.keep (hb.block _ hB)

theorem itoa_any (n : Int) (h0 : -9223372036854775808 ≤ n) (h1 : n ≤ 9223372036854775807) (w : World) (hp : Pow w) :
    Calls Tryd.prog 62 #[.int .i64 n] w fun e w' => e = .returned (.string ⟨(Lib.itoa n).toArray⟩) ∧ Below w.heap.size w w' := by
  refine (Tryd.strconv_Itoa n h0 h1 w hp).mono ?_
  rintro e w' ⟨he, k, os, rfl⟩
  exact ⟨he, Lib.below_grow _ _ (Nat.le_refl _) _ _⟩

def WriteSaid (N : Nat) : Prop := ∀ (x : V) (w : World) (A K : Option Addr) (c d B b : Nat) (l : List UInt8), x.nodes ≤ N → x.ok = true → Lies w B x A c K d → Pow w → Bld B b l w → l.length + 410 * x.nodes ≤ 1000000 → B ≤ w.heap.size → 0 < B →
    Calls Tryd.prog 44 #[.pointer (some ⟨b, 0, none⟩), .agg #[.int .i64 x.kind, .int .i64 x.int, .string x.text, .slice A x.items.length c, .slice K x.keys.length d]] w fun e w' => e = .returned (.tuple #[]) ∧ Wrote B b (l ++ x.write) w w'

/-- What is written of an item's beginning. -/
theorem sep_first (o : Bool) (key : ByteArray) : sepB o true key = if o then quoteB key.data.toList ++ [58] else [] := by unfold sepB; simp
theorem sep_next (o : Bool) (key : ByteArray) : sepB o false key = 44 :: (if o then quoteB key.data.toList ++ [58] else []) := by unfold sepB; simp

theorem step3 {w v v' : World} {B b g g' : Nat} {L L' : List UInt8} {cs cs' : Array Value} (h : Wrote B b L w v) (h1 : Blk v g 25 cs) (h2 : Blk v g' 25 cs') (hw : Wrote B b L' v v') (n1 : g ≠ b) (n2 : g' ≠ b) :
    Wrote B b L' w v' ∧ Blk v' g 25 cs ∧ Blk v' g' 25 cs' :=
  ⟨h.trans hw, hw.block h1 n1 (by decide), hw.block h2 n2 (by decide)⟩
theorem writeTo_len {o : Bool} {l : List V} {ks : List ByteArray} {q : Nat} {y : V} (hy : l[q]? = some y) (hok : V.okL l = true) (hk : o = true → keysOk true l.length ks) :
    (writeTo o l ks q).length + 410 * y.nodes ≤ 410 * V.nodesL l := by
  have h1 := V.nodesL_take_succ hy
  have h2 := V.nodesL_take_le l (q + 1)
  have h3 := V.writeL_len o true (l.take q) ks (V.okL_take hok q) (fun ho j hj => hk ho rfl j (by rw [List.length_take] at hj; omega))
  unfold writeTo
  omega
theorem key_len {l : List V} {ks : List ByteArray} {q : Nat} {s : ByteArray} (h : keysOk true l.length ks) (hq : q < l.length) (hs : ks[q]? = some s) : s.size ≤ 100 := by
  have := h rfl q hq
  have e : ks.getD q ByteArray.empty = s := by simp [List.getD_eq_getElem?_getD, hs]
  rw [e] at this
  simpa using this

set_option maxRecDepth 100000 in
set_option maxHeartbeats 4000000 in
theorem writeItems_of (N : Nat) (H : WriteSaid N) (k i : Int) (t : ByteArray) (l : List V) (ks : List ByteArray) (w : World) (A K : Option Addr) (c d B b : Nat) (L : List UInt8)
    (hN : V.nodesL l ≤ N) (hok : V.okL l = true) (hk5 : k = 5 → ks.length = l.length) (hkl : k = 5 → keysOk true l.length ks) (h : Lies w B (.mk k i t l ks) A c K d) (hp : Pow w) (hb : Bld B b L w) (hl : L.length + 410 * V.nodesL l + 205 ≤ 1000000) (hB : B ≤ w.heap.size) (h0 : 0 < B) :
    Calls Tryd.prog 65 #[.pointer (some ⟨b, 0, none⟩), .agg #[.int .i64 k, .int .i64 i, .string t, .slice A l.length c, .slice K ks.length d]] w fun e w' => e = .returned (.tuple #[]) ∧ Wrote B b (L ++ V.writeL (k == 5) true l ks) w w' := by
  obtain ⟨n, hn⟩ : ∃ n, n = l.length := ⟨_, rfl⟩
  obtain ⟨m, hm⟩ : ∃ n, n = ks.length := ⟨_, rfl⟩
  have hlen : n ≤ 9223372036854775807 := by have := h.items.1; have := h.items.2.1; unfold maxLen at *; omega
  have HH := Lib.hid H
  have HL := Lib.hid h
  have HN := Lib.hid hn
  have HM := Lib.hid hm
  have HO := Lib.hid hok
  have H5 := Lib.hid hk5
  have HK := Lib.hid hkl
  have HP := Lib.hid hp
  have HB := Lib.hid hb
  have hbl := hb.lt
  have hBb := hb.le
  have HLEN := Lib.hid hl
  rw [← hn, ← hm]
  clear H h hn hm hok hk5 hkl hp hb hl
  go_enter Tryd.func65, Tryd.ntmps65
  go_wp2_with fail
  go_loopw [9] (fun j wr => ∃ q : Nat, q ≤ n ∧ j = .int .i64 q ∧ Hid (Wrote B b (L ++ writeTo (k == 5) l ks q) w wr) ∧ Hid (Blk wr w.heap.size 25 #[.int .i64 k, .int .i64 i, .string t, .slice A n c, .slice K m d])) (fun j _ => n - (intOf j).toNat)
  case atStart =>
    exact ⟨0, Nat.zero_le _, rfl, Lib.hid (by rw [writeTo_zero, List.append_nil]; exact ((Wrote.refl HB.out).then_ ((Below.refl _ _).alloc (Nat.le_refl _) _) (by omega))), Lib.hid (Blk.new w _ _)⟩
  case round =>
    obtain ⟨q, hq, rfl, HA, HBX⟩ := hrel
    have hz := HA.out.size
    by_cases hlt : q < n
    · have hlt' : q < l.length := by have := HN.out; omega
      have hkr := HL.out.items.keep (w' := wr) (B' := B) (bcell HA.out.below) (Nat.le_refl _)
      obtain ⟨p, o, rfl, hpB, hfrom⟩ := hkr.at_ (k := q) hlt'
      obtain ⟨y, hy⟩ : ∃ y, l[q]? = some y := ⟨_, List.getElem?_eq_getElem hlt'⟩
      obtain ⟨Ay, cy, Ky, dy, e0, e1, e2, e3, e4, hly⟩ := hfrom.at_ hy
      have HY := Lib.hid hy
      have HLY := Lib.hid hly
      clear hlt' hkr hfrom hy hly
      have hBT : B ≤ wr.heap.size := by omega
      obtain ⟨T, hT⟩ : ∃ T, T = L ++ writeTo (k == 5) l ks q := ⟨_, rfl⟩
      have HTE := Lib.hid hT.symm
      have HT := Lib.hid (show T.length + 410 * y.nodes + 205 ≤ 1000000 by
        have := HLEN.out
        have := writeTo_len (o := (k == 5)) (ks := ks) HY.out HO.out (fun h => HK.out (by simpa using h))
        rw [hT, List.length_append]; omega)
      rw [← hT] at HA
      clear hT
      have HYN := Lib.hid (show y.nodes ≤ N by have := V.nodes_mem (List.mem_of_getElem? HY.out); omega)
      have HYO := Lib.hid (V.okL_mem HO.out (List.mem_of_getElem? HY.out))
      have hz1 : w.heap.size < wr.heap.size := HBX.out.lt
      have bk : wr.cell? ⟨w.heap.size, 0, none⟩ = some (.int .i64 k) := HBX.out.cell 0
      have bK : wr.cell? ⟨w.heap.size, 4, none⟩ = some (.slice K m d) := HBX.out.cell 4
      by_cases h5 : k = 5
      · subst h5
        have hkm : q < ks.length := by have := H5.out rfl; have := HN.out; omega
        obtain ⟨p2, o2, rfl, hp2, hs2⟩ := (HL.out.keys.keep (w' := wr) (B' := B) (bcell HA.out.below) (Nat.le_refl _)).at_ (k := q) hkm
        obtain ⟨s, hs⟩ : ∃ s, ks[q]? = some s := ⟨_, List.getElem?_eq_getElem hkm⟩
        have es := (hs2 q s hs).1
        have hp2w : p2 < wr.heap.size := by omega
        have hm1 : (q : Int) < m := by have := HM.out; omega
        have hm0 : 0 ≤ (q : Int) := by omega
        have HSL := Lib.hid (key_len (HK.out rfl) (by have := HN.out; omega) hs)
        have HSZ := Lib.hid (show s.data.toList.length = s.size by simp)
        have HKS := Lib.hid (show ks.getD q ByteArray.empty = s by simp [List.getD_eq_getElem?_getD, hs])
        clear hkm hs2 hs
        by_cases hq0 : q = 0
        · have hq1 : ¬ (0 : Int) < q := by omega
          have HQ := Lib.hid hq0
          clear hq0
          go_wp2_with fail
          refine (writeQuoted_any B b _ s (wr.alloc (.cells #[.int .i64 y.kind, .int .i64 y.int, .string y.text, .slice Ay y.items.length cy, .slice Ky y.keys.length dy] 25)) (HA.out.bld.keep ((Below.refl _ _).alloc (Nat.le_refl _) _)) (by have := HT.out; have := HSL.out; omega) (by have := hBT; simp; omega)).mono ?_
          rintro e v1 ⟨rfl, hw1⟩
          obtain ⟨x1, y1, z1⟩ := step3 (HA.out.then_ ((Below.refl _ wr).alloc (Nat.le_refl _) _) hBT) (HBX.out.alloc _) (Blk.new wr _ _) hw1 (by omega) (by omega)
          have X1 := Lib.hid x1
          have Y1 := Lib.hid y1
          have Z1 := Lib.hid z1
          have hz1 := hw1.size
          try simp only [World.size_alloc] at hz1
          have k1 : v1.cell? ⟨w.heap.size, 0, none⟩ = some (.int .i64 5) := y1.cell 0
          have K1 : v1.cell? ⟨w.heap.size, 4, none⟩ = some (.slice (some ⟨p2, o2, none⟩) m d) := y1.cell 4
          have S1 : v1.cell? ⟨p2, o2 + q, none⟩ = some (.string s) := (bcell x1.below _ _ hp2).trans ((bcell HA.out.below _ _ hp2).symm.trans es)
          have a10 : v1.cell? ⟨wr.heap.size, 0, none⟩ = some (.int .i64 y.kind) := z1.cell 0
          have a11 : v1.cell? ⟨wr.heap.size, 1, none⟩ = some (.int .i64 y.int) := z1.cell 1
          have a12 : v1.cell? ⟨wr.heap.size, 2, none⟩ = some (.string y.text) := z1.cell 2
          have a13 : v1.cell? ⟨wr.heap.size, 3, none⟩ = some (.slice Ay y.items.length cy) := z1.cell 3
          have a14 : v1.cell? ⟨wr.heap.size, 4, none⟩ = some (.slice Ky y.keys.length dy) := z1.cell 4
          clear x1 y1 z1 hw1
          go_wp2_with fail
          refine (wbyte B b _ 58 _ (by rfl) _ X1.out.bld (by have := HT.out; have := HSL.out; have := quoteB_len s.data.toList; have := HSZ.out; simp only [List.length_append, List.length_singleton]; omega) (by have := X1.out.below.size; omega)).mono ?_
          rintro e v2 ⟨rfl, hw2⟩
          obtain ⟨x2, y2, z2⟩ := step3 (X1.out) (Y1.out) (Z1.out) hw2 (by omega) (by omega)
          have X2 := Lib.hid x2
          have Y2 := Lib.hid y2
          have Z2 := Lib.hid z2
          have hz2 := hw2.size
          try simp only [World.size_alloc] at hz2
          have k2 : v2.cell? ⟨w.heap.size, 0, none⟩ = some (.int .i64 5) := y2.cell 0
          have K2 : v2.cell? ⟨w.heap.size, 4, none⟩ = some (.slice (some ⟨p2, o2, none⟩) m d) := y2.cell 4
          have S2 : v2.cell? ⟨p2, o2 + q, none⟩ = some (.string s) := (bcell x2.below _ _ hp2).trans ((bcell HA.out.below _ _ hp2).symm.trans es)
          have a20 : v2.cell? ⟨wr.heap.size, 0, none⟩ = some (.int .i64 y.kind) := z2.cell 0
          have a21 : v2.cell? ⟨wr.heap.size, 1, none⟩ = some (.int .i64 y.int) := z2.cell 1
          have a22 : v2.cell? ⟨wr.heap.size, 2, none⟩ = some (.string y.text) := z2.cell 2
          have a23 : v2.cell? ⟨wr.heap.size, 3, none⟩ = some (.slice Ay y.items.length cy) := z2.cell 3
          have a24 : v2.cell? ⟨wr.heap.size, 4, none⟩ = some (.slice Ky y.keys.length dy) := z2.cell 4
          clear x2 y2 z2 hw2
          go_wp2_with fail
          refine (HH.out y _ Ay Ky cy dy B b _ HYN.out HYO.out (Lies.keep (fun b o hb => (bcell X2.out.below b o hb).trans (bcell HA.out.below b o hb).symm) (Nat.le_refl _) _ HLY.out) (HP.out.below X2.out.below h0) X2.out.bld (by have := HT.out; have := HSL.out; have := quoteB_len s.data.toList; have := HSZ.out; simp only [List.length_append, List.length_singleton]; omega) (by have := X2.out.below.size; omega) h0).mono ?_
          rintro e v3 ⟨rfl, hw3⟩
          obtain ⟨x3, y3, z3⟩ := step3 (X2.out) (Y2.out) (Z2.out) hw3 (by omega) (by omega)
          have X3 := Lib.hid x3
          have Y3 := Lib.hid y3
          have Z3 := Lib.hid z3
          have hz3 := hw3.size
          try simp only [World.size_alloc] at hz3
          have k3 : v3.cell? ⟨w.heap.size, 0, none⟩ = some (.int .i64 5) := y3.cell 0
          have K3 : v3.cell? ⟨w.heap.size, 4, none⟩ = some (.slice (some ⟨p2, o2, none⟩) m d) := y3.cell 4
          have S3 : v3.cell? ⟨p2, o2 + q, none⟩ = some (.string s) := (bcell x3.below _ _ hp2).trans ((bcell HA.out.below _ _ hp2).symm.trans es)
          have a30 : v3.cell? ⟨wr.heap.size, 0, none⟩ = some (.int .i64 y.kind) := z3.cell 0
          have a31 : v3.cell? ⟨wr.heap.size, 1, none⟩ = some (.int .i64 y.int) := z3.cell 1
          have a32 : v3.cell? ⟨wr.heap.size, 2, none⟩ = some (.string y.text) := z3.cell 2
          have a33 : v3.cell? ⟨wr.heap.size, 3, none⟩ = some (.slice Ay y.items.length cy) := z3.cell 3
          have a34 : v3.cell? ⟨wr.heap.size, 4, none⟩ = some (.slice Ky y.keys.length dy) := z3.cell 4
          clear x3 y3 z3 hw3
          go_wp2_with fail
          go_roundw
          case rel => exact ⟨q + 1, by omega, by go_num, Lib.hid (by
            have := X3.out
            rw [writeTo_succ _ HY.out, ← List.append_assoc, HTE.out, show (q == 0) = true by rw [HQ.out]; rfl, sep_first, show ((5 : Int) == 5) = true from rfl, HKS.out]
            simpa [List.append_assoc] using this), Y3⟩
          case measure => simp [intOf]; omega

        · have hq1 : (0 : Int) < q := by omega
          have HQ := Lib.hid hq0
          clear hq0
          go_wp2_with fail
          refine (wbyte B b _ 44 _ rfl (wr.alloc (.cells #[.int .i64 y.kind, .int .i64 y.int, .string y.text, .slice Ay y.items.length cy, .slice Ky y.keys.length dy] 25)) (HA.out.bld.keep ((Below.refl _ _).alloc (Nat.le_refl _) _)) (by have := HT.out; omega) (by have := hBT; simp; omega)).mono ?_
          rintro e v1 ⟨rfl, hw1⟩
          obtain ⟨x1, y1, z1⟩ := step3 (HA.out.then_ ((Below.refl _ wr).alloc (Nat.le_refl _) _) hBT) (HBX.out.alloc _) (Blk.new wr _ _) hw1 (by omega) (by omega)
          have X1 := Lib.hid x1
          have Y1 := Lib.hid y1
          have Z1 := Lib.hid z1
          have hz1 := hw1.size
          try simp only [World.size_alloc] at hz1
          have k1 : v1.cell? ⟨w.heap.size, 0, none⟩ = some (.int .i64 5) := y1.cell 0
          have K1 : v1.cell? ⟨w.heap.size, 4, none⟩ = some (.slice (some ⟨p2, o2, none⟩) m d) := y1.cell 4
          have S1 : v1.cell? ⟨p2, o2 + q, none⟩ = some (.string s) := (bcell x1.below _ _ hp2).trans ((bcell HA.out.below _ _ hp2).symm.trans es)
          have a10 : v1.cell? ⟨wr.heap.size, 0, none⟩ = some (.int .i64 y.kind) := z1.cell 0
          have a11 : v1.cell? ⟨wr.heap.size, 1, none⟩ = some (.int .i64 y.int) := z1.cell 1
          have a12 : v1.cell? ⟨wr.heap.size, 2, none⟩ = some (.string y.text) := z1.cell 2
          have a13 : v1.cell? ⟨wr.heap.size, 3, none⟩ = some (.slice Ay y.items.length cy) := z1.cell 3
          have a14 : v1.cell? ⟨wr.heap.size, 4, none⟩ = some (.slice Ky y.keys.length dy) := z1.cell 4
          clear x1 y1 z1 hw1
          go_wp2_with fail
          refine (writeQuoted_any B b _ s _ X1.out.bld (by have := HT.out; have := HSL.out; rw [List.length_append, List.length_singleton]; omega) (by have := X1.out.below.size; omega)).mono ?_
          rintro e v2 ⟨rfl, hw2⟩
          obtain ⟨x2, y2, z2⟩ := step3 (X1.out) (Y1.out) (Z1.out) hw2 (by omega) (by omega)
          have X2 := Lib.hid x2
          have Y2 := Lib.hid y2
          have Z2 := Lib.hid z2
          have hz2 := hw2.size
          try simp only [World.size_alloc] at hz2
          have k2 : v2.cell? ⟨w.heap.size, 0, none⟩ = some (.int .i64 5) := y2.cell 0
          have K2 : v2.cell? ⟨w.heap.size, 4, none⟩ = some (.slice (some ⟨p2, o2, none⟩) m d) := y2.cell 4
          have S2 : v2.cell? ⟨p2, o2 + q, none⟩ = some (.string s) := (bcell x2.below _ _ hp2).trans ((bcell HA.out.below _ _ hp2).symm.trans es)
          have a20 : v2.cell? ⟨wr.heap.size, 0, none⟩ = some (.int .i64 y.kind) := z2.cell 0
          have a21 : v2.cell? ⟨wr.heap.size, 1, none⟩ = some (.int .i64 y.int) := z2.cell 1
          have a22 : v2.cell? ⟨wr.heap.size, 2, none⟩ = some (.string y.text) := z2.cell 2
          have a23 : v2.cell? ⟨wr.heap.size, 3, none⟩ = some (.slice Ay y.items.length cy) := z2.cell 3
          have a24 : v2.cell? ⟨wr.heap.size, 4, none⟩ = some (.slice Ky y.keys.length dy) := z2.cell 4
          clear x2 y2 z2 hw2
          go_wp2_with fail
          refine (wbyte B b _ 58 _ (by rfl) _ X2.out.bld (by have := HT.out; have := HSL.out; have := quoteB_len s.data.toList; have := HSZ.out; simp only [List.length_append, List.length_singleton]; omega) (by have := X2.out.below.size; omega)).mono ?_
          rintro e v3 ⟨rfl, hw3⟩
          obtain ⟨x3, y3, z3⟩ := step3 (X2.out) (Y2.out) (Z2.out) hw3 (by omega) (by omega)
          have X3 := Lib.hid x3
          have Y3 := Lib.hid y3
          have Z3 := Lib.hid z3
          have hz3 := hw3.size
          try simp only [World.size_alloc] at hz3
          have k3 : v3.cell? ⟨w.heap.size, 0, none⟩ = some (.int .i64 5) := y3.cell 0
          have K3 : v3.cell? ⟨w.heap.size, 4, none⟩ = some (.slice (some ⟨p2, o2, none⟩) m d) := y3.cell 4
          have S3 : v3.cell? ⟨p2, o2 + q, none⟩ = some (.string s) := (bcell x3.below _ _ hp2).trans ((bcell HA.out.below _ _ hp2).symm.trans es)
          have a30 : v3.cell? ⟨wr.heap.size, 0, none⟩ = some (.int .i64 y.kind) := z3.cell 0
          have a31 : v3.cell? ⟨wr.heap.size, 1, none⟩ = some (.int .i64 y.int) := z3.cell 1
          have a32 : v3.cell? ⟨wr.heap.size, 2, none⟩ = some (.string y.text) := z3.cell 2
          have a33 : v3.cell? ⟨wr.heap.size, 3, none⟩ = some (.slice Ay y.items.length cy) := z3.cell 3
          have a34 : v3.cell? ⟨wr.heap.size, 4, none⟩ = some (.slice Ky y.keys.length dy) := z3.cell 4
          clear x3 y3 z3 hw3
          go_wp2_with fail
          refine (HH.out y _ Ay Ky cy dy B b _ HYN.out HYO.out (Lies.keep (fun b o hb => (bcell X3.out.below b o hb).trans (bcell HA.out.below b o hb).symm) (Nat.le_refl _) _ HLY.out) (HP.out.below X3.out.below h0) X3.out.bld (by have := HT.out; have := HSL.out; have := quoteB_len s.data.toList; have := HSZ.out; simp only [List.length_append, List.length_singleton]; omega) (by have := X3.out.below.size; omega) h0).mono ?_
          rintro e v4 ⟨rfl, hw4⟩
          obtain ⟨x4, y4, z4⟩ := step3 (X3.out) (Y3.out) (Z3.out) hw4 (by omega) (by omega)
          have X4 := Lib.hid x4
          have Y4 := Lib.hid y4
          have Z4 := Lib.hid z4
          have hz4 := hw4.size
          try simp only [World.size_alloc] at hz4
          have k4 : v4.cell? ⟨w.heap.size, 0, none⟩ = some (.int .i64 5) := y4.cell 0
          have K4 : v4.cell? ⟨w.heap.size, 4, none⟩ = some (.slice (some ⟨p2, o2, none⟩) m d) := y4.cell 4
          have S4 : v4.cell? ⟨p2, o2 + q, none⟩ = some (.string s) := (bcell x4.below _ _ hp2).trans ((bcell HA.out.below _ _ hp2).symm.trans es)
          have a40 : v4.cell? ⟨wr.heap.size, 0, none⟩ = some (.int .i64 y.kind) := z4.cell 0
          have a41 : v4.cell? ⟨wr.heap.size, 1, none⟩ = some (.int .i64 y.int) := z4.cell 1
          have a42 : v4.cell? ⟨wr.heap.size, 2, none⟩ = some (.string y.text) := z4.cell 2
          have a43 : v4.cell? ⟨wr.heap.size, 3, none⟩ = some (.slice Ay y.items.length cy) := z4.cell 3
          have a44 : v4.cell? ⟨wr.heap.size, 4, none⟩ = some (.slice Ky y.keys.length dy) := z4.cell 4
          clear x4 y4 z4 hw4
          go_wp2_with fail
          go_roundw
          case rel => exact ⟨q + 1, by omega, by go_num, Lib.hid (by
            have := X4.out
            rw [writeTo_succ _ HY.out, ← List.append_assoc, HTE.out, show (q == 0) = false from beq_eq_false_iff_ne.2 HQ.out, sep_next, show ((5 : Int) == 5) = true from rfl, HKS.out]
            simpa [List.append_assoc] using this), Y4⟩
          case measure => simp [intOf]; omega

      · have hk5 : (k == 5) = false := by simpa using h5
        have HK5 := Lib.hid hk5
        clear h5
        by_cases hq0 : q = 0
        · have hq1 : ¬ (0 : Int) < q := by omega
          have HQ := Lib.hid hq0
          clear hq0
          go_wp2_with fail
          refine (HH.out y (wr.alloc (.cells #[.int .i64 y.kind, .int .i64 y.int, .string y.text, .slice Ay y.items.length cy, .slice Ky y.keys.length dy] 25)) Ay Ky cy dy B b _ HYN.out HYO.out (Lies.keep (bcell ((Below.refl _ _).alloc hBT _)) (Nat.le_refl _) _ HLY.out) (HP.out.below (HA.out.below.alloc hBT _) h0) (HA.out.bld.keep ((Below.refl _ _).alloc (Nat.le_refl _) _)) (by have := HT.out; omega) (by have := hBT; simp; omega) h0).mono ?_
          rintro e v1 ⟨rfl, hw1⟩
          obtain ⟨x1, y1, z1⟩ := step3 (HA.out.then_ ((Below.refl _ wr).alloc (Nat.le_refl _) _) hBT) (HBX.out.alloc _) (Blk.new wr _ _) hw1 (by omega) (by omega)
          have X1 := Lib.hid x1
          have Y1 := Lib.hid y1
          have Z1 := Lib.hid z1
          have hz1 := hw1.size
          try simp only [World.size_alloc] at hz1
          have k1 : v1.cell? ⟨w.heap.size, 0, none⟩ = some (.int .i64 k) := y1.cell 0
          have a10 : v1.cell? ⟨wr.heap.size, 0, none⟩ = some (.int .i64 y.kind) := z1.cell 0
          have a11 : v1.cell? ⟨wr.heap.size, 1, none⟩ = some (.int .i64 y.int) := z1.cell 1
          have a12 : v1.cell? ⟨wr.heap.size, 2, none⟩ = some (.string y.text) := z1.cell 2
          have a13 : v1.cell? ⟨wr.heap.size, 3, none⟩ = some (.slice Ay y.items.length cy) := z1.cell 3
          have a14 : v1.cell? ⟨wr.heap.size, 4, none⟩ = some (.slice Ky y.keys.length dy) := z1.cell 4
          clear x1 y1 z1 hw1
          go_wp2_with fail
          go_roundw
          case rel => exact ⟨q + 1, by omega, by go_num, Lib.hid (by
            have := X1.out
            rw [writeTo_succ _ HY.out, ← List.append_assoc, HTE.out, show (q == 0) = true by rw [HQ.out]; rfl, sep_first, show (k == 5) = false from HK5.out]
            simpa [List.append_assoc] using this), Y1⟩
          case measure => simp [intOf]; omega

        · have hq1 : (0 : Int) < q := by omega
          have HQ := Lib.hid hq0
          clear hq0
          go_wp2_with fail
          refine (wbyte B b _ 44 _ rfl (wr.alloc (.cells #[.int .i64 y.kind, .int .i64 y.int, .string y.text, .slice Ay y.items.length cy, .slice Ky y.keys.length dy] 25)) (HA.out.bld.keep ((Below.refl _ _).alloc (Nat.le_refl _) _)) (by have := HT.out; omega) (by have := hBT; simp; omega)).mono ?_
          rintro e v1 ⟨rfl, hw1⟩
          obtain ⟨x1, y1, z1⟩ := step3 (HA.out.then_ ((Below.refl _ wr).alloc (Nat.le_refl _) _) hBT) (HBX.out.alloc _) (Blk.new wr _ _) hw1 (by omega) (by omega)
          have X1 := Lib.hid x1
          have Y1 := Lib.hid y1
          have Z1 := Lib.hid z1
          have hz1 := hw1.size
          try simp only [World.size_alloc] at hz1
          have k1 : v1.cell? ⟨w.heap.size, 0, none⟩ = some (.int .i64 k) := y1.cell 0
          have a10 : v1.cell? ⟨wr.heap.size, 0, none⟩ = some (.int .i64 y.kind) := z1.cell 0
          have a11 : v1.cell? ⟨wr.heap.size, 1, none⟩ = some (.int .i64 y.int) := z1.cell 1
          have a12 : v1.cell? ⟨wr.heap.size, 2, none⟩ = some (.string y.text) := z1.cell 2
          have a13 : v1.cell? ⟨wr.heap.size, 3, none⟩ = some (.slice Ay y.items.length cy) := z1.cell 3
          have a14 : v1.cell? ⟨wr.heap.size, 4, none⟩ = some (.slice Ky y.keys.length dy) := z1.cell 4
          clear x1 y1 z1 hw1
          go_wp2_with fail
          refine (HH.out y _ Ay Ky cy dy B b _ HYN.out HYO.out (Lies.keep (fun b o hb => (bcell X1.out.below b o hb).trans (bcell HA.out.below b o hb).symm) (Nat.le_refl _) _ HLY.out) (HP.out.below X1.out.below h0) X1.out.bld (by have := HT.out; simp only [List.length_append, List.length_singleton]; omega) (by have := X1.out.below.size; omega) h0).mono ?_
          rintro e v2 ⟨rfl, hw2⟩
          obtain ⟨x2, y2, z2⟩ := step3 (X1.out) (Y1.out) (Z1.out) hw2 (by omega) (by omega)
          have X2 := Lib.hid x2
          have Y2 := Lib.hid y2
          have Z2 := Lib.hid z2
          have hz2 := hw2.size
          try simp only [World.size_alloc] at hz2
          have k2 : v2.cell? ⟨w.heap.size, 0, none⟩ = some (.int .i64 k) := y2.cell 0
          have a20 : v2.cell? ⟨wr.heap.size, 0, none⟩ = some (.int .i64 y.kind) := z2.cell 0
          have a21 : v2.cell? ⟨wr.heap.size, 1, none⟩ = some (.int .i64 y.int) := z2.cell 1
          have a22 : v2.cell? ⟨wr.heap.size, 2, none⟩ = some (.string y.text) := z2.cell 2
          have a23 : v2.cell? ⟨wr.heap.size, 3, none⟩ = some (.slice Ay y.items.length cy) := z2.cell 3
          have a24 : v2.cell? ⟨wr.heap.size, 4, none⟩ = some (.slice Ky y.keys.length dy) := z2.cell 4
          clear x2 y2 z2 hw2
          go_wp2_with fail
          go_roundw
          case rel => exact ⟨q + 1, by omega, by go_num, Lib.hid (by
            have := X2.out
            rw [writeTo_succ _ HY.out, ← List.append_assoc, HTE.out, show (q == 0) = false from beq_eq_false_iff_ne.2 HQ.out, sep_next, show (k == 5) = false from HK5.out]
            simpa [List.append_assoc] using this), Y2⟩
          case measure => simp [intOf]; omega

    · go_wp2_with fail
      refine bodyPost_end (v := .tuple #[]) (by simp [results, Tryd.results65, go_sem]) rfl ⟨rfl, ?_⟩
      have := HA.out
      rwa [writeTo_all _ _ _ (by have := HN.out; omega)] at this
end Go.Proofs.YtoddlacfbeckiaaDoor
