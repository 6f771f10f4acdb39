/- Writing into a Builder. -/
import Derived.Test.YtchadlbhdcpojaaGreatDoorSb
import Derived.Test.YtchadlbhdcpojaaGreatDoorWa
import Derived.Deep.LoopGhost
import Derived.Lib.BufferKept
import Derived.Lib.LaidTab
import Derived.Test.YtchadlbhdcpojaaGreatDoorWd
import Derived.Lib.AppendIntMem
import Derived.Test.YtchadlbhdcpojaaGreatDoorRk
namespace Go.Proofs.YtchadlbhdcpojaaGreatDoor
open Go.RowKit

/-- A Builder of the call's own that holds l. -/
def Bld (B b : Nat) (l : List UInt8) (w : World) : Prop := Lib.IsBuilderF 97 5 B b (Lib.byteCells l) w

theorem owns_keep {w w' : World} {B e n : Nat} {v : Value} {xs : List Value} (h : w.ownsRowF B e 1 v n xs) (hb : ∀ k, k < w.heap.size → w'.heap[k]? = w.heap[k]?) : w'.ownsRowF B e 1 v n xs := by
  refine ⟨h.1, h.2.imp id ?_⟩
  rintro ⟨g, cap, cur, fz, e1, e2, e3, r⟩
  have hg : g < w.heap.size := by
    rcases Nat.lt_or_ge g w.heap.size with hlt | hge
    · exact hlt
    · rw [Array.getElem?_eq_none hge] at e3; cases e3
  exact ⟨g, cap, cur, fz, e1, e2, (hb g hg).trans e3, r⟩
theorem bldAt_keep {w w' : World} {T e B b : Nat} {p : Value} {bs : List Value} (h : Lib.BuilderAtF T e B b p bs w) (hb : Below w.heap.size w w') : Lib.BuilderAtF T e B b p bs w' := by
  have hlt := h.lt
  obtain ⟨h1, v, h2, h3, h4⟩ := h
  exact ⟨h1, v, (hb.block b hlt).trans h2, owns_keep h3 hb.block, h4⟩
theorem Bld.keep {w w' : World} {B b : Nat} {l : List UInt8} (h : Bld B b l w) (hb : Below w.heap.size w w') : Bld B b l w' := h.imp (bldAt_keep · hb) (bldAt_keep · hb)
theorem Bld.lt {w : World} {B b : Nat} {l : List UInt8} (h : Bld B b l w) : b < w.heap.size := by rcases h with h | h <;> exact h.lt
theorem Bld.le {w : World} {B b : Nat} {l : List UInt8} (h : Bld B b l w) : B ≤ b := by rcases h with h | h <;> exact h.1

/-- What a writer leaves. -/
structure Wrote (B b : Nat) (l : List UInt8) (w w' : World) : Prop where
  bld : Bld B b l w'
  below : Below B w w'
  kept : Lib.OthersKept 5 (some b) w w'
theorem Wrote.refl {w : World} {B b : Nat} {l : List UInt8} (h : Bld B b l w) : Wrote B b l w w := ⟨h, Below.refl _ _, Lib.OthersKept.refl _ _ _⟩
theorem Wrote.trans {w w1 w2 : World} {B b : Nat} {l l' : List UInt8} (h : Wrote B b l w w1) (k : Wrote B b l' w1 w2) : Wrote B b l' w w2 :=
  ⟨k.bld, h.below.trans k.below, h.kept.trans k.kept⟩
theorem Wrote.after {w w1 w2 : World} {B b : Nat} {l : List UInt8} (hb : Below w.heap.size w w1) (h : Wrote B b l w1 w2) (hB : B ≤ w.heap.size) : Wrote B b l w w2 :=
  ⟨h.bld, (hb.mono hB).trans h.below, ((Lib.OthersKept.refl _ _ w).below hb).trans h.kept⟩
theorem Wrote.then_ {w w1 w2 : World} {B b : Nat} {l : List UInt8} (h : Wrote B b l w w1) (hb : Below w1.heap.size w1 w2) (hB : B ≤ w1.heap.size) : Wrote B b l w w2 :=
  ⟨h.bld.keep hb, h.below.trans (hb.mono hB), h.kept.trans ((Lib.OthersKept.refl _ _ w1).below hb)⟩
theorem Wrote.size {w w1 : World} {B b : Nat} {l : List UInt8} (h : Wrote B b l w w1) : w.heap.size ≤ w1.heap.size := h.below.size
/-- A boxed value stays. -/
theorem Wrote.block {w w1 : World} {B b g : Nat} {l : List UInt8} {cs : Array Value} {t : TypeId} (h : Wrote B b l w w1) (hg : BlockIs w g t cs) (hne : g ≠ b) (ht : t ≠ 5) : BlockIs w1 g t cs := by
  refine h.kept g _ hg (by simpa using hne) ?_
  intro c fz e
  cases e
  exact ht rfl

theorem wbyte (B b : Nat) (l : List UInt8) (c : UInt8) (q : Int) (hq : q = c.toNat) (w : World) (h : Bld B b l w) (hl : l.length + 1 ≤ 1000000) (hB : B ≤ w.heap.size) :
    Calls Tryz.prog 77 #[.pointer (some ⟨b, 0, none⟩), .int .u8 q] w fun e w' => e = .returned .nilIface ∧ Wrote B b (l ++ [c]) w w' := by
  subst hq
  refine (bld_byte B b (Lib.byteCells l) c.toNat w h (by rw [Lib.byteCells_length]; omega) hB).mono ?_
  rintro e w' ⟨he, h1, h2, h3⟩
  exact ⟨he, .inr (by rw [Lib.byteCells_append]; exact h1), h2, h3⟩
theorem wstr (B b : Nat) (l : List UInt8) (s : ByteArray) (w : World) (h : Bld B b l w) (hl : l.length + s.size ≤ 1000000) (hB : B ≤ w.heap.size) :
    Calls Tryz.prog 74 #[.pointer (some ⟨b, 0, none⟩), .string s] w fun e w' => e = .returned (.tuple #[.int .i64 s.size, .nilIface]) ∧ Wrote B b (l ++ s.data.toList) w w' := by
  refine (bld_string B b (Lib.byteCells l) s w h (by rw [Lib.byteCells_length]; omega) hB).mono ?_
  rintro e w' ⟨he, h1, h2, h3⟩
  exact ⟨he, .inr (by rw [Lib.byteCells_append]; exact h1), h2, h3⟩

theorem flat_take (s : ByteArray) (k : Nat) (h : k < s.size) : (s.data.toList.take (k + 1)).flatMap escB = (s.data.toList.take k).flatMap escB ++ escB s[k] := by
  rw [take_next s k h]; simp

set_option maxRecDepth 100000 in
set_option maxHeartbeats 1000000 in
theorem writeQuoted_any (B b : Nat) (l : List UInt8) (s : ByteArray) (w : World) (h : Bld B b l w) (hl : l.length + (2 * s.size + 2) ≤ 1000000) (hB : B ≤ w.heap.size) :
    Calls Tryz.prog 76 #[.pointer (some ⟨b, 0, none⟩), .string s] w fun e w' => e = .returned (.tuple #[]) ∧ Wrote B b (l ++ quoteB s.data.toList) w w' := by
  have HL := Lib.hid (show s.data.toList.length = s.size by simp)
  have H0 := Lib.hid h
  clear h
  go_enter Tryz.func76, Tryz.ntmps76
  go_wp2_with fail
  refine (wbyte B b l 34 _ (by rfl) _ H0.out (by omega) hB).mono ?_
  rintro e w0 ⟨rfl, hw0⟩
  have HW0 := Lib.hid (show Wrote B b (l ++ 34 :: (s.data.toList.take 0).flatMap escB) w w0 from hw0)
  clear hw0
  go_wp2_with fail
  go_loopw [9] (fun j wr => ∃ k : Nat, k ≤ s.size ∧ j = .int .i64 k ∧ Hid (Wrote B b (l ++ 34 :: (s.data.toList.take k).flatMap escB) w wr)) (fun j _ => s.size - (intOf j).toNat)
  case atStart => exact ⟨0, Nat.zero_le _, rfl, HW0⟩
  case round =>
    obtain ⟨k, hk, rfl, HA⟩ := hrel
    have hz := HA.out.size
    have hn : (l ++ 34 :: (s.data.toList.take k).flatMap escB).length + 1 ≤ 1000000 := by
      have := esc_len (s.data.toList.take k)
      rw [List.length_append, List.length_cons]
      rw [List.length_take, HL.out] at this
      by_cases hlt : k < s.size <;> omega
    by_cases hlt : k < s.size
    · have HF := Lib.hid (flat_take s k hlt)
      have hn' : (l ++ 34 :: (s.data.toList.take k).flatMap escB).length + 2 ≤ 999999 := by
        have := esc_len (s.data.toList.take k)
        rw [List.length_append, List.length_cons]
        rw [List.length_take, HL.out] at this
        omega
      have HN := Lib.hid hn'
      clear hn hn'
      by_cases hc : s[k].toNat = 34 ∨ s[k].toNat = 92
      · have HE := Lib.hid (show escB s[k] = [92, s[k]] by unfold escB; rw [if_pos (by rcases hc with h | h; exact .inl (UInt8.toNat_inj.1 h); exact .inr (UInt8.toNat_inj.1 h))])
        rcases hc with hc | hc
        all_goals have HC := Lib.hid hc
        · have e1 : ((s[k].toNat : Int) == 34) = true := by simp; omega
          clear hc
          go_wp2_with fail
          refine (wbyte B b _ 92 _ (by rfl) _ HA.out.bld (by have := HN.out; omega) (by omega)).mono ?_
          rintro e w1 ⟨rfl, hw1⟩
          have HW1 := Lib.hid (HA.out.trans hw1)
          clear hw1
          go_wp2_with fail
          refine (wbyte B b _ s[k] _ (by rfl) _ HW1.out.bld (by have := HN.out; rw [List.length_append]; simp; simp at this; omega) (by have := HW1.out.size; omega)).mono ?_
          rintro e w2 ⟨rfl, hw2⟩
          have HW2 := Lib.hid (HW1.out.trans hw2)
          clear hw2
          go_wp2_with fail
          go_roundw
          case rel => exact ⟨k + 1, by omega, by go_num, Lib.hid (by rw [HF.out, HE.out]; have := HW2.out; simpa [List.append_assoc] using this)⟩
          case measure => simp [intOf]; omega
        · have e0 : ((s[k].toNat : Int) == 34) = false := by simp; omega
          have e1 : ((s[k].toNat : Int) == 92) = true := by simp; omega
          clear hc
          go_wp2_with fail
          refine (wbyte B b _ 92 _ (by rfl) _ HA.out.bld (by have := HN.out; omega) (by omega)).mono ?_
          rintro e w1 ⟨rfl, hw1⟩
          have HW1 := Lib.hid (HA.out.trans hw1)
          clear hw1
          go_wp2_with fail
          refine (wbyte B b _ s[k] _ (by rfl) _ HW1.out.bld (by have := HN.out; rw [List.length_append]; simp; simp at this; omega) (by have := HW1.out.size; omega)).mono ?_
          rintro e w2 ⟨rfl, hw2⟩
          have HW2 := Lib.hid (HW1.out.trans hw2)
          clear hw2
          go_wp2_with fail
          go_roundw
          case rel => exact ⟨k + 1, by omega, by go_num, Lib.hid (by rw [HF.out, HE.out]; have := HW2.out; simpa [List.append_assoc] using this)⟩
          case measure => simp [intOf]; omega
      · have HE := Lib.hid (show escB s[k] = [s[k]] by unfold escB; rw [if_neg (by rintro (h | h); exact hc (.inl (by rw [h]; rfl)); exact hc (.inr (by rw [h]; rfl)))])
        have e0 : ((s[k].toNat : Int) == 34) = false := by simp; omega
        have e1 : ((s[k].toNat : Int) == 92) = false := by simp; omega
        clear hc
        go_wp2_with fail
        refine (wbyte B b _ s[k] _ (by rfl) _ HA.out.bld (by have := HN.out; omega) (by omega)).mono ?_
        rintro e w1 ⟨rfl, hw1⟩
        have HW1 := Lib.hid (HA.out.trans hw1)
        clear hw1
        go_wp2_with fail
        go_roundw
        case rel => exact ⟨k + 1, by omega, by go_num, Lib.hid (by rw [HF.out, HE.out]; have := HW1.out; simpa [List.append_assoc] using this)⟩
        case measure => simp [intOf]; omega
    · have HN := Lib.hid hn
      clear hn
      go_wp2_with fail
      refine (wbyte B b _ 34 _ (by rfl) _ HA.out.bld (by have := HN.out; omega) (by omega)).mono ?_
      rintro e w1 ⟨rfl, hw1⟩
      have HW1 := Lib.hid (HA.out.trans hw1)
      clear hw1
      go_wp2_with fail
      refine bodyPost_end (v := .tuple #[]) (by simp [results, Tryz.results76, go_sem]) rfl ⟨rfl, ?_⟩
      have := HW1.out
      rw [List.take_of_length_le (by rw [HL.out]; omega)] at this
      simpa [quoteB, List.append_assoc] using this
end Go.Proofs.YtchadlbhdcpojaaGreatDoor
/- The program's textual form of a value. -/
namespace Go.Proofs.YtchadlbhdcpojaaGreatDoor
open Go.RowKit

/-- The library's table of powers of ten. -/
def Pow (w : World) : Prop := Lib.TabIs Tryz.prog w "internal/strconv.uint64pow10" .u64 Lib.pow10Tab
theorem gPow : Tryz.prog.globalNamed "internal/strconv.uint64pow10" = some 0 := by kernel_rfl
theorem Pow.keep {w w' : World} (h : Pow w) (hb : w'.heap[0]? = w.heap[0]?) : Pow w' := by
  unfold Pow Lib.TabIs at *
  rw [← h]
  simp only [World.var?, gPow, Option.bind_some, hb]
theorem Pow.lt {w : World} (h : Pow w) : 0 < w.heap.size := by
  unfold Pow Lib.TabIs at h
  simp only [World.var?, gPow, Option.bind_some] at h
  rcases Nat.lt_or_ge 0 w.heap.size with hlt | hge
  · exact hlt
  · rw [Array.getElem?_eq_none hge] at h; cases h
theorem Pow.below {w w' : World} {B : Nat} (h : Pow w) (hb : Below B w w') (hB : 0 < B) : Pow w' := h.keep (hb.block _ hB)

theorem itoa_any (n : Int) (h0 : -9223372036854775808 ≤ n) (h1 : n ≤ 9223372036854775807) (w : World) (hp : Pow w) :
    Calls Tryz.prog 43 #[.int .i64 n] w fun e w' => e = .returned (.string ⟨(Lib.itoa n).toArray⟩) ∧ Below w.heap.size w w' := by
  refine (Tryz.strconv_Itoa n h0 h1 w hp).mono ?_
  rintro e w' ⟨he, k, os, rfl⟩
  exact ⟨he, Lib.below_grow _ _ (Nat.le_refl _) _ _⟩

def WriteSaid (N : Nat) : Prop := ∀ (x : V) (w : World) (A K : Option Addr) (c d B b : Nat) (l : List UInt8), x.nodes ≤ N → x.ok = true → Lies w B x A c K d → Pow w → Bld B b l w → l.length + 410 * x.nodes ≤ 1000000 → B ≤ w.heap.size → 0 < B →
    Calls Tryz.prog 61 #[.pointer (some ⟨b, 0, none⟩), .agg #[.int .i64 x.kind, .int .i64 x.int, .string x.text, .slice A x.items.length c, .slice K x.keys.length d]] w fun e w' => e = .returned (.tuple #[]) ∧ Wrote B b (l ++ x.write) w w'

/-- What is written of an item's beginning. -/
theorem sep_first (o : Bool) (key : ByteArray) : sepB o true key = if o then quoteB key.data.toList ++ [58] else [] := by unfold sepB; simp
theorem sep_next (o : Bool) (key : ByteArray) : sepB o false key = 44 :: (if o then quoteB key.data.toList ++ [58] else []) := by unfold sepB; simp

theorem step3 {w v v' : World} {B b g g' : Nat} {L L' : List UInt8} {cs cs' : Array Value} (h : Wrote B b L w v) (h1 : BlockIs v g 27 cs) (h2 : BlockIs v g' 27 cs') (hw : Wrote B b L' v v') (n1 : g ≠ b) (n2 : g' ≠ b) :
    Wrote B b L' w v' ∧ BlockIs v' g 27 cs ∧ BlockIs v' g' 27 cs' :=
  ⟨h.trans hw, hw.block h1 n1 (by decide), hw.block h2 n2 (by decide)⟩
theorem writeTo_len {o : Bool} {l : List V} {ks : List ByteArray} {q : Nat} {y : V} (hy : l[q]? = some y) (hok : V.okL l = true) (hk : o = true → keysOk true l.length ks) :
    (writeTo o l ks q).length + 410 * y.nodes ≤ 410 * V.nodesL l := by
  have h1 := V.nodesL_take_succ hy
  have h2 := V.nodesL_take_le l (q + 1)
  have h3 := V.writeL_len o true (l.take q) ks (V.okL_take hok q) (fun ho j hj => hk ho rfl j (by rw [List.length_take] at hj; omega))
  unfold writeTo
  omega
theorem key_len {l : List V} {ks : List ByteArray} {q : Nat} {s : ByteArray} (h : keysOk true l.length ks) (hq : q < l.length) (hs : ks[q]? = some s) : s.size ≤ 100 := by
  have := h rfl q hq
  have e : ks.getD q ByteArray.empty = s := by simp [List.getD_eq_getElem?_getD, hs]
  rw [e] at this
  simpa using this

set_option maxRecDepth 100000 in
set_option maxHeartbeats 4000000 in
theorem writeItems_of (N : Nat) (H : WriteSaid N) (k i : Int) (t : ByteArray) (l : List V) (ks : List ByteArray) (w : World) (A K : Option Addr) (c d B b : Nat) (L : List UInt8)
    (hN : V.nodesL l ≤ N) (hok : V.okL l = true) (hk5 : k = 5 → ks.length = l.length) (hkl : k = 5 → keysOk true l.length ks) (h : Lies w B (.mk k i t l ks) A c K d) (hp : Pow w) (hb : Bld B b L w) (hl : L.length + 410 * V.nodesL l + 205 ≤ 1000000) (hB : B ≤ w.heap.size) (h0 : 0 < B) :
    Calls Tryz.prog 78 #[.pointer (some ⟨b, 0, none⟩), .agg #[.int .i64 k, .int .i64 i, .string t, .slice A l.length c, .slice K ks.length d]] w fun e w' => e = .returned (.tuple #[]) ∧ Wrote B b (L ++ V.writeL (k == 5) true l ks) w w' := by
  obtain ⟨n, hn⟩ : ∃ n, n = l.length := ⟨_, rfl⟩
  obtain ⟨m, hm⟩ : ∃ n, n = ks.length := ⟨_, rfl⟩
  have hlen : n ≤ 9223372036854775807 := by have := h.items.1; have := h.items.2.1; unfold maxLen at *; omega
  have HH := Lib.hid H
  have HL := Lib.hid h
  have HN := Lib.hid hn
  have HM := Lib.hid hm
  have HO := Lib.hid hok
  have H5 := Lib.hid hk5
  have HK := Lib.hid hkl
  have HP := Lib.hid hp
  have HB := Lib.hid hb
  have hbl := hb.lt
  have hBb := hb.le
  have HLEN := Lib.hid hl
  rw [← hn, ← hm]
  clear H h hn hm hok hk5 hkl hp hb hl
  go_enter Tryz.func78, Tryz.ntmps78
  go_wp2_with fail
  go_loopw [9] (fun j wr => ∃ q : Nat, q ≤ n ∧ j = .int .i64 q ∧ Hid (Wrote B b (L ++ writeTo (k == 5) l ks q) w wr) ∧ Hid (BlockIs wr w.heap.size 27 #[.int .i64 k, .int .i64 i, .string t, .slice A n c, .slice K m d])) (fun j _ => n - (intOf j).toNat)
  case atStart =>
    exact ⟨0, Nat.zero_le _, rfl, Lib.hid (by rw [writeTo_zero, List.append_nil]; exact ((Wrote.refl HB.out).then_ ((Below.refl _ _).alloc (Nat.le_refl _) _) (by omega))), Lib.hid (BlockIs.new w _ _)⟩
  case round =>
    obtain ⟨q, hq, rfl, HA, HBX⟩ := hrel
    have hz := HA.out.size
    by_cases hlt : q < n
    · have hlt' : q < l.length := by have := HN.out; omega
      have hkr := HL.out.items.keep (w' := wr) (B' := B) (bcell HA.out.below) (Nat.le_refl _)
      obtain ⟨p, o, rfl, hpB, hfrom⟩ := hkr.at_ (k := q) hlt'
      obtain ⟨y, hy⟩ : ∃ y, l[q]? = some y := ⟨_, List.getElem?_eq_getElem hlt'⟩
      obtain ⟨Ay, cy, Ky, dy, e0, e1, e2, e3, e4, hly⟩ := hfrom.at_ hy
      have HY := Lib.hid hy
      have HLY := Lib.hid hly
      clear hlt' hkr hfrom hy hly
      have hBT : B ≤ wr.heap.size := by omega
      obtain ⟨T, hT⟩ : ∃ T, T = L ++ writeTo (k == 5) l ks q := ⟨_, rfl⟩
      have HTE := Lib.hid hT.symm
      have HT := Lib.hid (show T.length + 410 * y.nodes + 205 ≤ 1000000 by
        have := HLEN.out
        have := writeTo_len (o := (k == 5)) (ks := ks) HY.out HO.out (fun h => HK.out (by simpa using h))
        rw [hT, List.length_append]; omega)
      rw [← hT] at HA
      clear hT
      have HYN := Lib.hid (show y.nodes ≤ N by have := V.nodes_mem (List.mem_of_getElem? HY.out); omega)
      have HYO := Lib.hid (V.okL_mem HO.out (List.mem_of_getElem? HY.out))
      have hz1 : w.heap.size < wr.heap.size := HBX.out.lt
      have bk : wr.cell? ⟨w.heap.size, 0, none⟩ = some (.int .i64 k) := HBX.out.cell 0
      have bK : wr.cell? ⟨w.heap.size, 4, none⟩ = some (.slice K m d) := HBX.out.cell 4
      by_cases h5 : k = 5
      · subst h5
        have hkm : q < ks.length := by have := H5.out rfl; have := HN.out; omega
        obtain ⟨p2, o2, rfl, hp2, hs2⟩ := (HL.out.keys.keep (w' := wr) (B' := B) (bcell HA.out.below) (Nat.le_refl _)).at_ (k := q) hkm
        obtain ⟨s, hs⟩ : ∃ s, ks[q]? = some s := ⟨_, List.getElem?_eq_getElem hkm⟩
        have es := (hs2 q s hs).1
        have hp2w : p2 < wr.heap.size := by omega
        have hm1 : (q : Int) < m := by have := HM.out; omega
        have hm0 : 0 ≤ (q : Int) := by omega
        have HSL := Lib.hid (key_len (HK.out rfl) (by have := HN.out; omega) hs)
        have HSZ := Lib.hid (show s.data.toList.length = s.size by simp)
        have HKS := Lib.hid (show ks.getD q ByteArray.empty = s by simp [List.getD_eq_getElem?_getD, hs])
        clear hkm hs2 hs
        by_cases hq0 : q = 0
        · have hq1 : ¬ (0 : Int) < q := by omega
          have HQ := Lib.hid hq0
          clear hq0
          go_wp2_with fail
          refine (writeQuoted_any B b _ s (wr.alloc (.cells #[.int .i64 y.kind, .int .i64 y.int, .string y.text, .slice Ay y.items.length cy, .slice Ky y.keys.length dy] 27)) (HA.out.bld.keep ((Below.refl _ _).alloc (Nat.le_refl _) _)) (by have := HT.out; have := HSL.out; omega) (by have := hBT; simp; omega)).mono ?_
          rintro e v1 ⟨rfl, hw1⟩
          obtain ⟨x1, y1, z1⟩ := step3 (HA.out.then_ ((Below.refl _ wr).alloc (Nat.le_refl _) _) hBT) (HBX.out.alloc _) (BlockIs.new wr _ _) hw1 (by omega) (by omega)
          have X1 := Lib.hid x1
          have Y1 := Lib.hid y1
          have Z1 := Lib.hid z1
          have hz1 := hw1.size
          try simp only [World.size_alloc] at hz1
          have k1 : v1.cell? ⟨w.heap.size, 0, none⟩ = some (.int .i64 5) := y1.cell 0
          have K1 : v1.cell? ⟨w.heap.size, 4, none⟩ = some (.slice (some ⟨p2, o2, none⟩) m d) := y1.cell 4
          have S1 : v1.cell? ⟨p2, o2 + q, none⟩ = some (.string s) := (bcell x1.below _ _ hp2).trans ((bcell HA.out.below _ _ hp2).symm.trans es)
          have a10 : v1.cell? ⟨wr.heap.size, 0, none⟩ = some (.int .i64 y.kind) := z1.cell 0
          have a11 : v1.cell? ⟨wr.heap.size, 1, none⟩ = some (.int .i64 y.int) := z1.cell 1
          have a12 : v1.cell? ⟨wr.heap.size, 2, none⟩ = some (.string y.text) := z1.cell 2
          have a13 : v1.cell? ⟨wr.heap.size, 3, none⟩ = some (.slice Ay y.items.length cy) := z1.cell 3
          have a14 : v1.cell? ⟨wr.heap.size, 4, none⟩ = some (.slice Ky y.keys.length dy) := z1.cell 4
          clear x1 y1 z1 hw1
          go_wp2_with fail
          refine (wbyte B b _ 58 _ (by rfl) _ X1.out.bld (by have := HT.out; have := HSL.out; have := quoteB_len s.data.toList; have := HSZ.out; simp only [List.length_append]; omega) (by have := X1.out.below.size; omega)).mono ?_
          rintro e v2 ⟨rfl, hw2⟩
          obtain ⟨x2, y2, z2⟩ := step3 (X1.out) (Y1.out) (Z1.out) hw2 (by omega) (by omega)
          have X2 := Lib.hid x2
          have Y2 := Lib.hid y2
          have Z2 := Lib.hid z2
          have hz2 := hw2.size
          try simp only [World.size_alloc] at hz2
          have k2 : v2.cell? ⟨w.heap.size, 0, none⟩ = some (.int .i64 5) := y2.cell 0
          have K2 : v2.cell? ⟨w.heap.size, 4, none⟩ = some (.slice (some ⟨p2, o2, none⟩) m d) := y2.cell 4
          have S2 : v2.cell? ⟨p2, o2 + q, none⟩ = some (.string s) := (bcell x2.below _ _ hp2).trans ((bcell HA.out.below _ _ hp2).symm.trans es)
          have a20 : v2.cell? ⟨wr.heap.size, 0, none⟩ = some (.int .i64 y.kind) := z2.cell 0
          have a21 : v2.cell? ⟨wr.heap.size, 1, none⟩ = some (.int .i64 y.int) := z2.cell 1
          have a22 : v2.cell? ⟨wr.heap.size, 2, none⟩ = some (.string y.text) := z2.cell 2
          have a23 : v2.cell? ⟨wr.heap.size, 3, none⟩ = some (.slice Ay y.items.length cy) := z2.cell 3
          have a24 : v2.cell? ⟨wr.heap.size, 4, none⟩ = some (.slice Ky y.keys.length dy) := z2.cell 4
          clear x2 y2 z2 hw2
          go_wp2_with fail
          refine (HH.out y _ Ay Ky cy dy B b _ HYN.out HYO.out (Lies.keep (fun b o hb => (bcell X2.out.below b o hb).trans (bcell HA.out.below b o hb).symm) (Nat.le_refl _) _ HLY.out) (HP.out.below X2.out.below h0) X2.out.bld (by have := HT.out; have := HSL.out; have := quoteB_len s.data.toList; have := HSZ.out; simp only [List.length_append, List.length_singleton]; omega) (by have := X2.out.below.size; omega) h0).mono ?_
          rintro e v3 ⟨rfl, hw3⟩
          obtain ⟨x3, y3, z3⟩ := step3 (X2.out) (Y2.out) (Z2.out) hw3 (by omega) (by omega)
          have X3 := Lib.hid x3
          have Y3 := Lib.hid y3
          have Z3 := Lib.hid z3
          have hz3 := hw3.size
          try simp only [World.size_alloc] at hz3
          have k3 : v3.cell? ⟨w.heap.size, 0, none⟩ = some (.int .i64 5) := y3.cell 0
          have K3 : v3.cell? ⟨w.heap.size, 4, none⟩ = some (.slice (some ⟨p2, o2, none⟩) m d) := y3.cell 4
          have S3 : v3.cell? ⟨p2, o2 + q, none⟩ = some (.string s) := (bcell x3.below _ _ hp2).trans ((bcell HA.out.below _ _ hp2).symm.trans es)
          have a30 : v3.cell? ⟨wr.heap.size, 0, none⟩ = some (.int .i64 y.kind) := z3.cell 0
          have a31 : v3.cell? ⟨wr.heap.size, 1, none⟩ = some (.int .i64 y.int) := z3.cell 1
          have a32 : v3.cell? ⟨wr.heap.size, 2, none⟩ = some (.string y.text) := z3.cell 2
          have a33 : v3.cell? ⟨wr.heap.size, 3, none⟩ = some (.slice Ay y.items.length cy) := z3.cell 3
          have a34 : v3.cell? ⟨wr.heap.size, 4, none⟩ = some (.slice Ky y.keys.length dy) := z3.cell 4
          clear x3 y3 z3 hw3
          go_wp2_with fail
          go_roundw
          case rel => exact ⟨q + 1, by omega, by go_num, Lib.hid (by
            have := X3.out
            rw [writeTo_succ _ HY.out, ← List.append_assoc, HTE.out, show (q == 0) = true by rw [HQ.out]; rfl, sep_first, show ((5 : Int) == 5) = true from rfl, HKS.out]
            simpa [List.append_assoc] using this), Y3⟩
          case measure => simp [intOf]; omega

        · have hq1 : (0 : Int) < q := by omega
          have HQ := Lib.hid hq0
          clear hq0
          go_wp2_with fail
          refine (wbyte B b _ 44 _ rfl (wr.alloc (.cells #[.int .i64 y.kind, .int .i64 y.int, .string y.text, .slice Ay y.items.length cy, .slice Ky y.keys.length dy] 27)) (HA.out.bld.keep ((Below.refl _ _).alloc (Nat.le_refl _) _)) (by have := HT.out; omega) (by have := hBT; simp; omega)).mono ?_
          rintro e v1 ⟨rfl, hw1⟩
          obtain ⟨x1, y1, z1⟩ := step3 (HA.out.then_ ((Below.refl _ wr).alloc (Nat.le_refl _) _) hBT) (HBX.out.alloc _) (BlockIs.new wr _ _) hw1 (by omega) (by omega)
          have X1 := Lib.hid x1
          have Y1 := Lib.hid y1
          have Z1 := Lib.hid z1
          have hz1 := hw1.size
          try simp only [World.size_alloc] at hz1
          have k1 : v1.cell? ⟨w.heap.size, 0, none⟩ = some (.int .i64 5) := y1.cell 0
          have K1 : v1.cell? ⟨w.heap.size, 4, none⟩ = some (.slice (some ⟨p2, o2, none⟩) m d) := y1.cell 4
          have S1 : v1.cell? ⟨p2, o2 + q, none⟩ = some (.string s) := (bcell x1.below _ _ hp2).trans ((bcell HA.out.below _ _ hp2).symm.trans es)
          have a10 : v1.cell? ⟨wr.heap.size, 0, none⟩ = some (.int .i64 y.kind) := z1.cell 0
          have a11 : v1.cell? ⟨wr.heap.size, 1, none⟩ = some (.int .i64 y.int) := z1.cell 1
          have a12 : v1.cell? ⟨wr.heap.size, 2, none⟩ = some (.string y.text) := z1.cell 2
          have a13 : v1.cell? ⟨wr.heap.size, 3, none⟩ = some (.slice Ay y.items.length cy) := z1.cell 3
          have a14 : v1.cell? ⟨wr.heap.size, 4, none⟩ = some (.slice Ky y.keys.length dy) := z1.cell 4
          clear x1 y1 z1 hw1
          go_wp2_with fail
          refine (writeQuoted_any B b _ s _ X1.out.bld (by have := HT.out; have := HSL.out; rw [List.length_append, List.length_singleton]; omega) (by have := X1.out.below.size; omega)).mono ?_
          rintro e v2 ⟨rfl, hw2⟩
          obtain ⟨x2, y2, z2⟩ := step3 (X1.out) (Y1.out) (Z1.out) hw2 (by omega) (by omega)
          have X2 := Lib.hid x2
          have Y2 := Lib.hid y2
          have Z2 := Lib.hid z2
          have hz2 := hw2.size
          try simp only [World.size_alloc] at hz2
          have k2 : v2.cell? ⟨w.heap.size, 0, none⟩ = some (.int .i64 5) := y2.cell 0
          have K2 : v2.cell? ⟨w.heap.size, 4, none⟩ = some (.slice (some ⟨p2, o2, none⟩) m d) := y2.cell 4
          have S2 : v2.cell? ⟨p2, o2 + q, none⟩ = some (.string s) := (bcell x2.below _ _ hp2).trans ((bcell HA.out.below _ _ hp2).symm.trans es)
          have a20 : v2.cell? ⟨wr.heap.size, 0, none⟩ = some (.int .i64 y.kind) := z2.cell 0
          have a21 : v2.cell? ⟨wr.heap.size, 1, none⟩ = some (.int .i64 y.int) := z2.cell 1
          have a22 : v2.cell? ⟨wr.heap.size, 2, none⟩ = some (.string y.text) := z2.cell 2
          have a23 : v2.cell? ⟨wr.heap.size, 3, none⟩ = some (.slice Ay y.items.length cy) := z2.cell 3
          have a24 : v2.cell? ⟨wr.heap.size, 4, none⟩ = some (.slice Ky y.keys.length dy) := z2.cell 4
          clear x2 y2 z2 hw2
          go_wp2_with fail
          refine (wbyte B b _ 58 _ (by rfl) _ X2.out.bld (by have := HT.out; have := HSL.out; have := quoteB_len s.data.toList; have := HSZ.out; simp only [List.length_append, List.length_singleton]; omega) (by have := X2.out.below.size; omega)).mono ?_
          rintro e v3 ⟨rfl, hw3⟩
          obtain ⟨x3, y3, z3⟩ := step3 (X2.out) (Y2.out) (Z2.out) hw3 (by omega) (by omega)
          have X3 := Lib.hid x3
          have Y3 := Lib.hid y3
          have Z3 := Lib.hid z3
          have hz3 := hw3.size
          try simp only [World.size_alloc] at hz3
          have k3 : v3.cell? ⟨w.heap.size, 0, none⟩ = some (.int .i64 5) := y3.cell 0
          have K3 : v3.cell? ⟨w.heap.size, 4, none⟩ = some (.slice (some ⟨p2, o2, none⟩) m d) := y3.cell 4
          have S3 : v3.cell? ⟨p2, o2 + q, none⟩ = some (.string s) := (bcell x3.below _ _ hp2).trans ((bcell HA.out.below _ _ hp2).symm.trans es)
          have a30 : v3.cell? ⟨wr.heap.size, 0, none⟩ = some (.int .i64 y.kind) := z3.cell 0
          have a31 : v3.cell? ⟨wr.heap.size, 1, none⟩ = some (.int .i64 y.int) := z3.cell 1
          have a32 : v3.cell? ⟨wr.heap.size, 2, none⟩ = some (.string y.text) := z3.cell 2
          have a33 : v3.cell? ⟨wr.heap.size, 3, none⟩ = some (.slice Ay y.items.length cy) := z3.cell 3
          have a34 : v3.cell? ⟨wr.heap.size, 4, none⟩ = some (.slice Ky y.keys.length dy) := z3.cell 4
          clear x3 y3 z3 hw3
          go_wp2_with fail
          refine (HH.out y _ Ay Ky cy dy B b _ HYN.out HYO.out (Lies.keep (fun b o hb => (bcell X3.out.below b o hb).trans (bcell HA.out.below b o hb).symm) (Nat.le_refl _) _ HLY.out) (HP.out.below X3.out.below h0) X3.out.bld (by have := HT.out; have := HSL.out; have := quoteB_len s.data.toList; have := HSZ.out; simp only [List.length_append, List.length_singleton]; omega) (by have := X3.out.below.size; omega) h0).mono ?_
          rintro e v4 ⟨rfl, hw4⟩
          obtain ⟨x4, y4, z4⟩ := step3 (X3.out) (Y3.out) (Z3.out) hw4 (by omega) (by omega)
          have X4 := Lib.hid x4
          have Y4 := Lib.hid y4
          have Z4 := Lib.hid z4
          have hz4 := hw4.size
          try simp only [World.size_alloc] at hz4
          have k4 : v4.cell? ⟨w.heap.size, 0, none⟩ = some (.int .i64 5) := y4.cell 0
          have K4 : v4.cell? ⟨w.heap.size, 4, none⟩ = some (.slice (some ⟨p2, o2, none⟩) m d) := y4.cell 4
          have S4 : v4.cell? ⟨p2, o2 + q, none⟩ = some (.string s) := (bcell x4.below _ _ hp2).trans ((bcell HA.out.below _ _ hp2).symm.trans es)
          have a40 : v4.cell? ⟨wr.heap.size, 0, none⟩ = some (.int .i64 y.kind) := z4.cell 0
          have a41 : v4.cell? ⟨wr.heap.size, 1, none⟩ = some (.int .i64 y.int) := z4.cell 1
          have a42 : v4.cell? ⟨wr.heap.size, 2, none⟩ = some (.string y.text) := z4.cell 2
          have a43 : v4.cell? ⟨wr.heap.size, 3, none⟩ = some (.slice Ay y.items.length cy) := z4.cell 3
          have a44 : v4.cell? ⟨wr.heap.size, 4, none⟩ = some (.slice Ky y.keys.length dy) := z4.cell 4
          clear x4 y4 z4 hw4
          go_wp2_with fail
          go_roundw
          case rel => exact ⟨q + 1, by omega, by go_num, Lib.hid (by
            have := X4.out
            rw [writeTo_succ _ HY.out, ← List.append_assoc, HTE.out, show (q == 0) = false from beq_eq_false_iff_ne.2 HQ.out, sep_next, show ((5 : Int) == 5) = true from rfl, HKS.out]
            simpa [List.append_assoc] using this), Y4⟩
          case measure => simp [intOf]; omega

      · have hk5 : (k == 5) = false := by simpa using h5
        have HK5 := Lib.hid hk5
        clear h5
        by_cases hq0 : q = 0
        · have hq1 : ¬ (0 : Int) < q := by omega
          have HQ := Lib.hid hq0
          clear hq0
          go_wp2_with fail
          refine (HH.out y (wr.alloc (.cells #[.int .i64 y.kind, .int .i64 y.int, .string y.text, .slice Ay y.items.length cy, .slice Ky y.keys.length dy] 27)) Ay Ky cy dy B b _ HYN.out HYO.out (Lies.keep (bcell ((Below.refl _ _).alloc hBT _)) (Nat.le_refl _) _ HLY.out) (HP.out.below (HA.out.below.alloc hBT _) h0) (HA.out.bld.keep ((Below.refl _ _).alloc (Nat.le_refl _) _)) (by have := HT.out; omega) (by have := hBT; simp; omega) h0).mono ?_
          rintro e v1 ⟨rfl, hw1⟩
          obtain ⟨x1, y1, z1⟩ := step3 (HA.out.then_ ((Below.refl _ wr).alloc (Nat.le_refl _) _) hBT) (HBX.out.alloc _) (BlockIs.new wr _ _) hw1 (by omega) (by omega)
          have X1 := Lib.hid x1
          have Y1 := Lib.hid y1
          have Z1 := Lib.hid z1
          have hz1 := hw1.size
          try simp only [World.size_alloc] at hz1
          have k1 : v1.cell? ⟨w.heap.size, 0, none⟩ = some (.int .i64 k) := y1.cell 0
          have a10 : v1.cell? ⟨wr.heap.size, 0, none⟩ = some (.int .i64 y.kind) := z1.cell 0
          have a11 : v1.cell? ⟨wr.heap.size, 1, none⟩ = some (.int .i64 y.int) := z1.cell 1
          have a12 : v1.cell? ⟨wr.heap.size, 2, none⟩ = some (.string y.text) := z1.cell 2
          have a13 : v1.cell? ⟨wr.heap.size, 3, none⟩ = some (.slice Ay y.items.length cy) := z1.cell 3
          have a14 : v1.cell? ⟨wr.heap.size, 4, none⟩ = some (.slice Ky y.keys.length dy) := z1.cell 4
          clear x1 y1 z1 hw1
          go_wp2_with fail
          go_roundw
          case rel => exact ⟨q + 1, by omega, by go_num, Lib.hid (by
            have := X1.out
            rw [writeTo_succ _ HY.out, ← List.append_assoc, HTE.out, show (q == 0) = true by rw [HQ.out]; rfl, sep_first, show (k == 5) = false from HK5.out]
            simpa [List.append_assoc] using this), Y1⟩
          case measure => simp [intOf]; omega

        · have hq1 : (0 : Int) < q := by omega
          have HQ := Lib.hid hq0
          clear hq0
          go_wp2_with fail
          refine (wbyte B b _ 44 _ rfl (wr.alloc (.cells #[.int .i64 y.kind, .int .i64 y.int, .string y.text, .slice Ay y.items.length cy, .slice Ky y.keys.length dy] 27)) (HA.out.bld.keep ((Below.refl _ _).alloc (Nat.le_refl _) _)) (by have := HT.out; omega) (by have := hBT; simp; omega)).mono ?_
          rintro e v1 ⟨rfl, hw1⟩
          obtain ⟨x1, y1, z1⟩ := step3 (HA.out.then_ ((Below.refl _ wr).alloc (Nat.le_refl _) _) hBT) (HBX.out.alloc _) (BlockIs.new wr _ _) hw1 (by omega) (by omega)
          have X1 := Lib.hid x1
          have Y1 := Lib.hid y1
          have Z1 := Lib.hid z1
          have hz1 := hw1.size
          try simp only [World.size_alloc] at hz1
          have k1 : v1.cell? ⟨w.heap.size, 0, none⟩ = some (.int .i64 k) := y1.cell 0
          have a10 : v1.cell? ⟨wr.heap.size, 0, none⟩ = some (.int .i64 y.kind) := z1.cell 0
          have a11 : v1.cell? ⟨wr.heap.size, 1, none⟩ = some (.int .i64 y.int) := z1.cell 1
          have a12 : v1.cell? ⟨wr.heap.size, 2, none⟩ = some (.string y.text) := z1.cell 2
          have a13 : v1.cell? ⟨wr.heap.size, 3, none⟩ = some (.slice Ay y.items.length cy) := z1.cell 3
          have a14 : v1.cell? ⟨wr.heap.size, 4, none⟩ = some (.slice Ky y.keys.length dy) := z1.cell 4
          clear x1 y1 z1 hw1
          go_wp2_with fail
          refine (HH.out y _ Ay Ky cy dy B b _ HYN.out HYO.out (Lies.keep (fun b o hb => (bcell X1.out.below b o hb).trans (bcell HA.out.below b o hb).symm) (Nat.le_refl _) _ HLY.out) (HP.out.below X1.out.below h0) X1.out.bld (by have := HT.out; simp only [List.length_append, List.length_singleton]; omega) (by have := X1.out.below.size; omega) h0).mono ?_
          rintro e v2 ⟨rfl, hw2⟩
          obtain ⟨x2, y2, z2⟩ := step3 (X1.out) (Y1.out) (Z1.out) hw2 (by omega) (by omega)
          have X2 := Lib.hid x2
          have Y2 := Lib.hid y2
          have Z2 := Lib.hid z2
          have hz2 := hw2.size
          try simp only [World.size_alloc] at hz2
          have k2 : v2.cell? ⟨w.heap.size, 0, none⟩ = some (.int .i64 k) := y2.cell 0
          have a20 : v2.cell? ⟨wr.heap.size, 0, none⟩ = some (.int .i64 y.kind) := z2.cell 0
          have a21 : v2.cell? ⟨wr.heap.size, 1, none⟩ = some (.int .i64 y.int) := z2.cell 1
          have a22 : v2.cell? ⟨wr.heap.size, 2, none⟩ = some (.string y.text) := z2.cell 2
          have a23 : v2.cell? ⟨wr.heap.size, 3, none⟩ = some (.slice Ay y.items.length cy) := z2.cell 3
          have a24 : v2.cell? ⟨wr.heap.size, 4, none⟩ = some (.slice Ky y.keys.length dy) := z2.cell 4
          clear x2 y2 z2 hw2
          go_wp2_with fail
          go_roundw
          case rel => exact ⟨q + 1, by omega, by go_num, Lib.hid (by
            have := X2.out
            rw [writeTo_succ _ HY.out, ← List.append_assoc, HTE.out, show (q == 0) = false from beq_eq_false_iff_ne.2 HQ.out, sep_next, show (k == 5) = false from HK5.out]
            simpa [List.append_assoc] using this), Y2⟩
          case measure => simp [intOf]; omega

    · go_wp2_with fail
      refine bodyPost_end (v := .tuple #[]) (by simp [results, Tryz.results78, go_sem]) rfl ⟨rfl, ?_⟩
      have := HA.out
      rwa [writeTo_all _ _ _ (by have := HN.out; omega)] at this
end Go.Proofs.YtchadlbhdcpojaaGreatDoor
/- The program's textual form of a value: each kind, and Text. -/
namespace Go.Proofs.YtchadlbhdcpojaaGreatDoor
open Go.RowKit

theorem wrote_box {w w' : World} {B b : Nat} {L : List UInt8} {o : Obj} (h : Wrote B b L (w.alloc o) w') (hB : B ≤ w.heap.size) : Wrote B b L w w' := Wrote.after ((Below.refl _ _).alloc (Nat.le_refl _) o) h hB
theorem fmt_truth (b : Bool) : (Lib.formatBool b) = truthB b := by cases b <;> decide

set_option maxRecDepth 100000 in
set_option maxHeartbeats 2000000 in
theorem write_null (i : Int) (t : ByteArray) (n m : Nat) (w : World) (A K : Option Addr) (c d B b : Nat) (L : List UInt8) (hp : Pow w) (hb : Bld B b L w) (hB : B ≤ w.heap.size) (h0 : 0 < B) (hl : L.length + 410 ≤ 1000000) :
    Calls Tryz.prog 61 #[.pointer (some ⟨b, 0, none⟩), .agg #[.int .i64 0, .int .i64 i, .string t, .slice A n c, .slice K m d]] w fun e w' => e = .returned (.tuple #[]) ∧ Wrote B b (L ++ nullB) w w' := by
  have HB := Lib.hid (hb.keep (w' := (w.alloc (.cells #[.int .i64 0, .int .i64 i, .string t, .slice A n c, .slice K m d] 27))) ((Below.refl _ _).alloc (Nat.le_refl _) _))
  have HP := Lib.hid (hp.below (w' := (w.alloc (.cells #[.int .i64 0, .int .i64 i, .string t, .slice A n c, .slice K m d] 27))) ((Below.refl w.heap.size w).alloc (Nat.le_refl _) _) (by omega))
  have hbl := hb.lt
  clear hb hp
  go_enter Tryz.func61, Tryz.ntmps61
  go_wp2_with fail
  refine (wstr B b L _ _ HB.out (by simp [ByteArray.size]; omega) (by simp; omega)).mono ?_
  rintro e v1 ⟨rfl, hw1⟩
  have X1 := Lib.hid hw1
  clear hw1
  go_wp2_with fail
  refine bodyPost_end (v := .tuple #[]) (by simp [results, Tryz.results61, go_sem]) rfl ⟨rfl, ?_⟩
  exact wrote_box X1.out hB

set_option maxRecDepth 100000 in
set_option maxHeartbeats 2000000 in
theorem write_truth (i : Int) (t : ByteArray) (n m : Nat) (w : World) (A K : Option Addr) (c d B b : Nat) (L : List UInt8) (hp : Pow w) (hb : Bld B b L w) (hB : B ≤ w.heap.size) (h0 : 0 < B) (hl : L.length + 410 ≤ 1000000) :
    Calls Tryz.prog 61 #[.pointer (some ⟨b, 0, none⟩), .agg #[.int .i64 1, .int .i64 i, .string t, .slice A n c, .slice K m d]] w fun e w' => e = .returned (.tuple #[]) ∧ Wrote B b (L ++ truthB (i == 1)) w w' := by
  have HB := Lib.hid (hb.keep (w' := (w.alloc (.cells #[.int .i64 1, .int .i64 i, .string t, .slice A n c, .slice K m d] 27))) ((Below.refl _ _).alloc (Nat.le_refl _) _))
  have HP := Lib.hid (hp.below (w' := (w.alloc (.cells #[.int .i64 1, .int .i64 i, .string t, .slice A n c, .slice K m d] 27))) ((Below.refl w.heap.size w).alloc (Nat.le_refl _) _) (by omega))
  have hbl := hb.lt
  clear hb hp
  go_enter Tryz.func61, Tryz.ntmps61
  go_wp2_with fail
  refine (Tryz.strconv_FormatBool (i == 1) _).mono ?_
  rintro e v1 ⟨rfl, rfl⟩
  go_wp2_with fail
  refine (wstr B b L _ _ HB.out (by rw [fmt_truth]; unfold truthB; split <;> simp [ByteArray.size] <;> omega) (by simp; omega)).mono ?_
  rintro e v1 ⟨rfl, hw1⟩
  have X1 := Lib.hid hw1
  clear hw1
  go_wp2_with fail
  refine bodyPost_end (v := .tuple #[]) (by simp [results, Tryz.results61, go_sem]) rfl ⟨rfl, ?_⟩
  have := wrote_box X1.out hB
  rw [fmt_truth] at this
  exact this

set_option maxRecDepth 100000 in
set_option maxHeartbeats 2000000 in
theorem write_int (i : Int) (t : ByteArray) (n m : Nat) (w : World) (A K : Option Addr) (c d B b : Nat) (L : List UInt8) (hp : Pow w) (hb : Bld B b L w) (hB : B ≤ w.heap.size) (h0 : 0 < B) (hl : L.length + 410 ≤ 1000000) (hi0 : -1000000000000 ≤ i) (hi1 : i ≤ 1000000000000) :
    Calls Tryz.prog 61 #[.pointer (some ⟨b, 0, none⟩), .agg #[.int .i64 2, .int .i64 i, .string t, .slice A n c, .slice K m d]] w fun e w' => e = .returned (.tuple #[]) ∧ Wrote B b (L ++ Lib.itoa i) w w' := by
  have HB := Lib.hid (hb.keep (w' := (w.alloc (.cells #[.int .i64 2, .int .i64 i, .string t, .slice A n c, .slice K m d] 27))) ((Below.refl _ _).alloc (Nat.le_refl _) _))
  have HP := Lib.hid (hp.below (w' := (w.alloc (.cells #[.int .i64 2, .int .i64 i, .string t, .slice A n c, .slice K m d] 27))) ((Below.refl w.heap.size w).alloc (Nat.le_refl _) _) (by omega))
  have hbl := hb.lt
  clear hb hp
  go_enter Tryz.func61, Tryz.ntmps61
  go_wp2_with fail
  refine (itoa_any i (by omega) (by omega) _ HP.out).mono ?_
  rintro e v1 ⟨rfl, hv1⟩
  have Y1 := Lib.hid hv1
  have HB1 := Lib.hid (HB.out.keep hv1)
  have hz := hv1.size
  simp only [World.size_alloc] at hz
  clear hv1
  go_wp2_with fail
  refine (wstr B b L _ _ HB1.out (by have := Lib.itoa_length_le i (by omega) (by omega); simp [ByteArray.size]; omega) (by omega)).mono ?_
  rintro e v2 ⟨rfl, hw1⟩
  have X1 := Lib.hid hw1
  clear hw1
  go_wp2_with fail
  refine bodyPost_end (v := .tuple #[]) (by simp [results, Tryz.results61, go_sem]) rfl ⟨rfl, ?_⟩
  exact wrote_box (Wrote.after Y1.out X1.out (by simp; omega)) hB

set_option maxRecDepth 100000 in
set_option maxHeartbeats 2000000 in
theorem write_text (i : Int) (t : ByteArray) (n m : Nat) (w : World) (A K : Option Addr) (c d B b : Nat) (L : List UInt8) (hp : Pow w) (hb : Bld B b L w) (hB : B ≤ w.heap.size) (h0 : 0 < B) (hl : L.length + 410 ≤ 1000000) (ht : t.size ≤ 100) :
    Calls Tryz.prog 61 #[.pointer (some ⟨b, 0, none⟩), .agg #[.int .i64 3, .int .i64 i, .string t, .slice A n c, .slice K m d]] w fun e w' => e = .returned (.tuple #[]) ∧ Wrote B b (L ++ quoteB t.data.toList) w w' := by
  have HB := Lib.hid (hb.keep (w' := (w.alloc (.cells #[.int .i64 3, .int .i64 i, .string t, .slice A n c, .slice K m d] 27))) ((Below.refl _ _).alloc (Nat.le_refl _) _))
  have HP := Lib.hid (hp.below (w' := (w.alloc (.cells #[.int .i64 3, .int .i64 i, .string t, .slice A n c, .slice K m d] 27))) ((Below.refl w.heap.size w).alloc (Nat.le_refl _) _) (by omega))
  have hbl := hb.lt
  clear hb hp
  go_enter Tryz.func61, Tryz.ntmps61
  go_wp2_with fail
  refine (writeQuoted_any B b L t _ HB.out (by omega) (by simp; omega)).mono ?_
  rintro e v1 ⟨rfl, hw1⟩
  have X1 := Lib.hid hw1
  clear hw1
  go_wp2_with fail
  refine bodyPost_end (v := .tuple #[]) (by simp [results, Tryz.results61, go_sem]) rfl ⟨rfl, ?_⟩
  exact wrote_box X1.out hB

set_option maxRecDepth 100000 in
set_option maxHeartbeats 2000000 in
theorem write_list (U : List UInt8) (i : Int) (t : ByteArray) (n m : Nat) (w : World) (A K : Option Addr) (c d B b : Nat) (L : List UInt8) (hp : Pow w) (hb : Bld B b L w) (hB : B ≤ w.heap.size) (h0 : 0 < B) (hl : L.length + U.length + 410 ≤ 1000000) (HI : Hid (∀ (W : World) (L' : List UInt8), Below B w W → Pow W → Bld B b L' W → L'.length ≤ L.length + 1 → B ≤ W.heap.size → Calls Tryz.prog 78 #[.pointer (some ⟨b, 0, none⟩), .agg #[.int .i64 4, .int .i64 i, .string t, .slice A n c, .slice K m d]] W fun e w' => e = .returned (.tuple #[]) ∧ Wrote B b (L' ++ U) W w')) :
    Calls Tryz.prog 61 #[.pointer (some ⟨b, 0, none⟩), .agg #[.int .i64 4, .int .i64 i, .string t, .slice A n c, .slice K m d]] w fun e w' => e = .returned (.tuple #[]) ∧ Wrote B b (L ++ 91 :: (U ++ [93])) w w' := by
  have HB := Lib.hid (hb.keep (w' := (w.alloc (.cells #[.int .i64 4, .int .i64 i, .string t, .slice A n c, .slice K m d] 27))) ((Below.refl _ _).alloc (Nat.le_refl _) _))
  have HP := Lib.hid (hp.below (w' := (w.alloc (.cells #[.int .i64 4, .int .i64 i, .string t, .slice A n c, .slice K m d] 27))) ((Below.refl w.heap.size w).alloc (Nat.le_refl _) _) (by omega))
  have hbl := hb.lt
  clear hb hp
  go_enter Tryz.func61, Tryz.ntmps61
  go_wp2_with fail
  refine (wbyte B b L 91 _ rfl _ HB.out (by omega) (by simp; omega)).mono ?_
  rintro e v1 ⟨rfl, hw1⟩
  have q := hw1.block (BlockIs.new w _ _) (by omega) (by decide)
  have X1 := Lib.hid (wrote_box hw1 hB)
  have a0 : v1.cell? ⟨w.heap.size, 0, none⟩ = some (.int .i64 4) := q.cell 0
  have a1 : v1.cell? ⟨w.heap.size, 1, none⟩ = some (.int .i64 i) := q.cell 1
  have a2 : v1.cell? ⟨w.heap.size, 2, none⟩ = some (.string t) := q.cell 2
  have a3 : v1.cell? ⟨w.heap.size, 3, none⟩ = some (.slice A n c) := q.cell 3
  have a4 : v1.cell? ⟨w.heap.size, 4, none⟩ = some (.slice K m d) := q.cell 4
  have hz := X1.out.size
  clear hw1 q
  go_wp2_with fail
  refine (HI.out _ (L ++ [91]) X1.out.below (HP.out.keep ?_) X1.out.bld (by simp) (by omega)).mono ?_
  · rw [X1.out.below.block _ h0]; exact (((Below.refl w.heap.size w).alloc (Nat.le_refl _) _).block _ (by omega)).symm
  rintro e v2 ⟨rfl, hw2⟩
  have X2 := Lib.hid (X1.out.trans hw2)
  have hz2 := hw2.size
  clear hw2
  go_wp2_with fail
  refine (wbyte B b _ 93 _ rfl _ X2.out.bld (by simp only [List.length_append, List.length_singleton]; omega) (by omega)).mono ?_
  rintro e v3 ⟨rfl, hw3⟩
  have X3 := Lib.hid (X2.out.trans hw3)
  clear hw3
  go_wp2_with fail
  refine bodyPost_end (v := .tuple #[]) (by simp [results, Tryz.results61, go_sem]) rfl ⟨rfl, ?_⟩
  have := X3.out
  simpa [List.append_assoc] using this

set_option maxRecDepth 100000 in
set_option maxHeartbeats 2000000 in
theorem write_object (U : List UInt8) (i : Int) (t : ByteArray) (n m : Nat) (w : World) (A K : Option Addr) (c d B b : Nat) (L : List UInt8) (hp : Pow w) (hb : Bld B b L w) (hB : B ≤ w.heap.size) (h0 : 0 < B) (hl : L.length + U.length + 410 ≤ 1000000) (HI : Hid (∀ (W : World) (L' : List UInt8), Below B w W → Pow W → Bld B b L' W → L'.length ≤ L.length + 1 → B ≤ W.heap.size → Calls Tryz.prog 78 #[.pointer (some ⟨b, 0, none⟩), .agg #[.int .i64 5, .int .i64 i, .string t, .slice A n c, .slice K m d]] W fun e w' => e = .returned (.tuple #[]) ∧ Wrote B b (L' ++ U) W w')) :
    Calls Tryz.prog 61 #[.pointer (some ⟨b, 0, none⟩), .agg #[.int .i64 5, .int .i64 i, .string t, .slice A n c, .slice K m d]] w fun e w' => e = .returned (.tuple #[]) ∧ Wrote B b (L ++ 123 :: (U ++ [125])) w w' := by
  have HB := Lib.hid (hb.keep (w' := (w.alloc (.cells #[.int .i64 5, .int .i64 i, .string t, .slice A n c, .slice K m d] 27))) ((Below.refl _ _).alloc (Nat.le_refl _) _))
  have HP := Lib.hid (hp.below (w' := (w.alloc (.cells #[.int .i64 5, .int .i64 i, .string t, .slice A n c, .slice K m d] 27))) ((Below.refl w.heap.size w).alloc (Nat.le_refl _) _) (by omega))
  have hbl := hb.lt
  clear hb hp
  go_enter Tryz.func61, Tryz.ntmps61
  go_wp2_with fail
  refine (wbyte B b L 123 _ rfl _ HB.out (by omega) (by simp; omega)).mono ?_
  rintro e v1 ⟨rfl, hw1⟩
  have q := hw1.block (BlockIs.new w _ _) (by omega) (by decide)
  have X1 := Lib.hid (wrote_box hw1 hB)
  have a0 : v1.cell? ⟨w.heap.size, 0, none⟩ = some (.int .i64 5) := q.cell 0
  have a1 : v1.cell? ⟨w.heap.size, 1, none⟩ = some (.int .i64 i) := q.cell 1
  have a2 : v1.cell? ⟨w.heap.size, 2, none⟩ = some (.string t) := q.cell 2
  have a3 : v1.cell? ⟨w.heap.size, 3, none⟩ = some (.slice A n c) := q.cell 3
  have a4 : v1.cell? ⟨w.heap.size, 4, none⟩ = some (.slice K m d) := q.cell 4
  have hz := X1.out.size
  clear hw1 q
  go_wp2_with fail
  refine (HI.out _ (L ++ [123]) X1.out.below (HP.out.keep ?_) X1.out.bld (by simp) (by omega)).mono ?_
  · rw [X1.out.below.block _ h0]; exact (((Below.refl w.heap.size w).alloc (Nat.le_refl _) _).block _ (by omega)).symm
  rintro e v2 ⟨rfl, hw2⟩
  have X2 := Lib.hid (X1.out.trans hw2)
  have hz2 := hw2.size
  clear hw2
  go_wp2_with fail
  refine (wbyte B b _ 125 _ rfl _ X2.out.bld (by simp only [List.length_append, List.length_singleton]; omega) (by omega)).mono ?_
  rintro e v3 ⟨rfl, hw3⟩
  have X3 := Lib.hid (X2.out.trans hw3)
  clear hw3
  go_wp2_with fail
  refine bodyPost_end (v := .tuple #[]) (by simp [results, Tryz.results61, go_sem]) rfl ⟨rfl, ?_⟩
  have := X3.out
  simpa [List.append_assoc] using this

set_option maxRecDepth 100000 in
theorem write_any (N : Nat) : WriteSaid N := by
  induction N with
  | zero => intro x w A K c d B b l hx; have := x.nodes_pos; omega
  | succ N ih =>
    intro x w A K c d B b L hx hok h hp hb hl hB h0
    obtain ⟨k, i, t, l, ks⟩ := x
    have hs : V.sound (.mk k i t l ks) = true := by rw [V.ok] at hok; simp at hok; exact hok.1
    have hlen := V.write_len _ hok
    rw [V.nodes] at hx hl hlen
    simp only [V.kind, V.int, V.text, V.items, V.keys]
    rw [V.write] at hlen ⊢
    by_cases e0 : k = 0
    · subst e0; exact write_null i t _ _ w A K c d B b L hp hb hB h0 (by omega)
    rw [if_neg e0] at hlen ⊢
    by_cases e1 : k = 1
    · subst e1; exact write_truth i t _ _ w A K c d B b L hp hb hB h0 (by omega)
    rw [if_neg e1] at hlen ⊢
    by_cases e2 : k = 2
    · subst e2
      simp [V.sound] at hs
      exact write_int i t _ _ w A K c d B b L hp hb hB h0 (by omega) (by omega) (by omega)
    rw [if_neg e2] at hlen ⊢
    by_cases e3 : k = 3
    · subst e3
      simp [V.sound] at hs
      exact write_text i t _ _ w A K c d B b L hp hb hB h0 (by omega) (by have := textB_len hs.1.2; simpa using this)
    rw [if_neg e3] at hlen ⊢
    by_cases e4 : k = 4
    · subst e4
      rw [if_pos rfl] at hlen ⊢
      refine write_list (V.writeL false true l ks) i t _ _ w A K c d B b L hp hb hB h0 (by have := V.writeL_len false true l ks (ok_items hok) (fun h => by cases h); omega) (Lib.hid fun W L' hW hP hBd hL' hBW => ?_)
      exact writeItems_of N ih 4 i t l ks W A K c d B b L' (by omega) (ok_items hok) (fun h => by omega) (fun h => by omega) (h.below hW) hP hBd (by omega) hBW h0
    rw [if_neg e4] at hlen ⊢
    by_cases e5 : k = 5
    · subst e5
      refine write_object (V.writeL true true l ks) i t _ _ w A K c d B b L hp hb hB h0 (by have := V.writeL_len true true l ks (ok_items hok) (ok_object hok rfl); omega) (Lib.hid fun W L' hW hP hBd hL' hBW => ?_)
      exact writeItems_of N ih 5 i t l ks W A K c d B b L' (by omega) (ok_items hok) (fun _ => ok_keys hok rfl) (fun _ => ok_object hok rfl) (h.below hW) hP hBd (by omega) hBW h0
    · simp [V.sound, *] at hs

def TextPost (x : V) (w : World) (e : Ending) (w' : World) : Prop :=
  e = .returned (if x.valid then .tuple #[.string ⟨x.write.toArray⟩, .int .i64 0] else .tuple #[.string ⟨#[]⟩, .int .i64 1]) ∧ Below w.heap.size w w'

set_option maxRecDepth 100000 in
set_option maxHeartbeats 2000000 in
theorem text_any (x : V) (w : World) (A K : Option Addr) (c d : Nat) (h : Lies w w.heap.size x A c K d) (hp : Pow w) :
    Calls Tryz.prog 45 #[.agg #[.int .i64 x.kind, .int .i64 x.int, .string x.text, .slice A x.items.length c, .slice K x.keys.length d]] w (TextPost x w) := by
  have HV := Lib.hid fun W (hW : Below w.heap.size w W) => valid_any x W A K c d (Lies.keep (bcell hW) hW.size _ h)
  have HL := Lib.hid h
  have HP := Lib.hid hp
  have hpl := hp.lt
  clear h hp
  cases hv : x.valid
  · rw [hv] at HV
    have HX := Lib.hid hv
    clear hv
    go_enter Tryz.func45, Tryz.ntmps45
    go_wp2_with fail
    refine (HV.out _ ((Below.refl _ _).alloc (Nat.le_refl _) _)).mono ?_
    rintro e w' ⟨rfl, hb⟩
    go_wp2_with fail
    go_ret2
    go_light
    exact ⟨by rw [HX.out]; rfl, ((Below.refl _ _).alloc (Nat.le_refl _) _).trans (hb.mono (by simp))⟩
  · rw [hv] at HV
    have HX := Lib.hid hv
    have HO := Lib.hid (valid_ok hv)
    have HN := Lib.hid (show x.nodes ≤ 60 by unfold V.valid V.fits at hv; simp at hv; omega)
    clear hv
    go_enter Tryz.func45, Tryz.ntmps45
    go_wp2_with fail
    refine (HV.out _ ((Below.refl _ _).alloc (Nat.le_refl _) _)).mono ?_
    rintro e v1 ⟨rfl, hb⟩
    have HB := Lib.hid (((Below.refl w.heap.size w).alloc (Nat.le_refl _) _).trans (hb.mono (by simp)))
    have hz := hb.size
    simp only [World.size_alloc] at hz
    have hz1 : w.heap.size < v1.heap.size := by omega
    have hc := bcell hb
    have q0 : v1.cell? ⟨w.heap.size, 0, none⟩ = some (.int .i64 x.kind) := (hc w.heap.size 0 (by simp)).trans (by simp [go_sem])
    have q1 : v1.cell? ⟨w.heap.size, 1, none⟩ = some (.int .i64 x.int) := (hc w.heap.size 1 (by simp)).trans (by simp [go_sem])
    have q2 : v1.cell? ⟨w.heap.size, 2, none⟩ = some (.string x.text) := (hc w.heap.size 2 (by simp)).trans (by simp [go_sem])
    have q3 : v1.cell? ⟨w.heap.size, 3, none⟩ = some (.slice A x.items.length c) := (hc w.heap.size 3 (by simp)).trans (by simp [go_sem])
    have q4 : v1.cell? ⟨w.heap.size, 4, none⟩ = some (.slice K x.keys.length d) := (hc w.heap.size 4 (by simp)).trans (by simp [go_sem])
    clear hb hc
    go_wp2_with fail
    have hbl : Bld v1.heap.size v1.heap.size [] (v1.alloc (.cells #[.pointer none, .slice none 0 0] 97)) := Lib.IsBuilderF.of (Lib.fresh_isBuilder 97 5 v1)
    refine (write_any x.nodes x (v1.alloc (.cells #[.pointer none, .slice none 0 0] 97)) A K c d v1.heap.size v1.heap.size [] (Nat.le_refl _) HO.out (Lies.keep (bcell (HB.out.alloc (by omega) _)) (by omega) _ HL.out) (HP.out.below (HB.out.alloc (by omega) _) hpl) hbl (by have := HN.out; simp; omega) (by simp) (by omega)).mono ?_
    rintro e v2 ⟨rfl, hw2⟩
    have X2 := Lib.hid hw2
    have hz2 := hw2.size
    simp only [World.size_alloc] at hz2
    clear hw2 hbl
    go_wp2_with fail
    refine (bld_text _ _ _ _ X2.out.bld (by omega)).mono ?_
    rintro e v3 ⟨rfl, _, hb3, _⟩
    have X3 := Lib.hid hb3
    clear hb3
    go_wp2_with fail
    go_ret2
    go_light
    refine ⟨by rw [HX.out]; rfl, HB.out.trans ?_⟩
    exact ((Below.refl _ _).alloc (by omega) _).trans ((X2.out.below.mono (by omega)).trans (X3.out.mono (by omega)))
end Go.Proofs.YtchadlbhdcpojaaGreatDoor
