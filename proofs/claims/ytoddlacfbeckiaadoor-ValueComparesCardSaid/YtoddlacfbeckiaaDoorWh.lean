/- The program's textual form of a value: each kind, and Text. -/
import Derived.Test.YtoddlacfbeckiaaDoorWg
import Derived.Test.YtoddlacfbeckiaaDoorRm
namespace Go.Proofs.YtoddlacfbeckiaaDoor
open Go.RowKit

theorem wrote_box {w w' : World} {B b : Nat} {L : List UInt8} {o : Obj} (h : Wrote B b L (w.alloc o) w') (hB : B ≤ w.heap.size) : Wrote B b L w w' := Wrote.after ((Below.refl _ _).alloc (Nat.le_refl _) o) h hB
theorem fmt_truth (b : Bool) : (Lib.formatBool b) = truthB b := by cases b <;> decide

set_option maxRecDepth 100000 in
set_option maxHeartbeats 2000000 in
theorem write_null (i : Int) (t : ByteArray) (n m : Nat) (w : World) (A K : Option Addr) (c d B b : Nat) (L : List UInt8) (hp : Pow w) (hb : Bld B b L w) (hB : B ≤ w.heap.size) (h0 : 0 < B) (hl : L.length + 410 ≤ 1000000) :
    Calls Tryd.prog 44 #[.pointer (some ⟨b, 0, none⟩), .agg #[.int .i64 0, .int .i64 i, .string t, .slice A n c, .slice K m d]] w fun e w' => e = .returned (.tuple #[]) ∧ Wrote B b (L ++ nullB) w w' := by
  have HB := Lib.hid (hb.keep (w' := (w.alloc (.cells #[.int .i64 0, .int .i64 i, .string t, .slice A n c, .slice K m d] 25))) ((Below.refl _ _).alloc (Nat.le_refl _) _))
  have HP := Lib.hid (hp.below (w' := (w.alloc (.cells #[.int .i64 0, .int .i64 i, .string t, .slice A n c, .slice K m d] 25))) ((Below.refl w.heap.size w).alloc (Nat.le_refl _) _) (by omega))
  have hbl := hb.lt
  clear hb hp
  go_enter Tryd.func44, Tryd.ntmps44
  go_wp2_with fail
  refine (wstr B b L _ _ HB.out (by simp [ByteArray.size]; omega) (by simp; omega)).mono ?_
  rintro e v1 ⟨rfl, hw1⟩
  have X1 := Lib.hid hw1
  clear hw1
  go_wp2_with fail
  refine bodyPost_end (v := .tuple #[]) (by simp [results, Tryd.results44, go_sem]) rfl ⟨rfl, ?_⟩
  exact wrote_box X1.out hB

set_option maxRecDepth 100000 in
set_option maxHeartbeats 2000000 in
theorem write_truth (i : Int) (t : ByteArray) (n m : Nat) (w : World) (A K : Option Addr) (c d B b : Nat) (L : List UInt8) (hp : Pow w) (hb : Bld B b L w) (hB : B ≤ w.heap.size) (h0 : 0 < B) (hl : L.length + 410 ≤ 1000000) :
    Calls Tryd.prog 44 #[.pointer (some ⟨b, 0, none⟩), .agg #[.int .i64 1, .int .i64 i, .string t, .slice A n c, .slice K m d]] w fun e w' => e = .returned (.tuple #[]) ∧ Wrote B b (L ++ truthB (i == 1)) w w' := by
  have HB := Lib.hid (hb.keep (w' := (w.alloc (.cells #[.int .i64 1, .int .i64 i, .string t, .slice A n c, .slice K m d] 25))) ((Below.refl _ _).alloc (Nat.le_refl _) _))
  have HP := Lib.hid (hp.below (w' := (w.alloc (.cells #[.int .i64 1, .int .i64 i, .string t, .slice A n c, .slice K m d] 25))) ((Below.refl w.heap.size w).alloc (Nat.le_refl _) _) (by omega))
  have hbl := hb.lt
  clear hb hp
  go_enter Tryd.func44, Tryd.ntmps44
  go_wp2_with fail
  refine (Tryd.strconv_FormatBool (i == 1) _).mono ?_
  rintro e v1 ⟨rfl, rfl⟩
  go_wp2_with fail
  refine (wstr B b L _ _ HB.out (by rw [fmt_truth]; unfold truthB; split <;> simp [ByteArray.size] <;> omega) (by simp; omega)).mono ?_
  rintro e v1 ⟨rfl, hw1⟩
  have X1 := Lib.hid hw1
  clear hw1
  go_wp2_with fail
  refine bodyPost_end (v := .tuple #[]) (by simp [results, Tryd.results44, go_sem]) rfl ⟨rfl, ?_⟩
  have := wrote_box X1.out hB
  rw [fmt_truth] at this
  exact this

set_option maxRecDepth 100000 in
set_option maxHeartbeats 2000000 in
theorem write_int (i : Int) (t : ByteArray) (n m : Nat) (w : World) (A K : Option Addr) (c d B b : Nat) (L : List UInt8) (hp : Pow w) (hb : Bld B b L w) (hB : B ≤ w.heap.size) (h0 : 0 < B) (hl : L.length + 410 ≤ 1000000) (hi0 : -1000000000000 ≤ i) (hi1 : i ≤ 1000000000000) :
    Calls Tryd.prog 44 #[.pointer (some ⟨b, 0, none⟩), .agg #[.int .i64 2, .int .i64 i, .string t, .slice A n c, .slice K m d]] w fun e w' => e = .returned (.tuple #[]) ∧ Wrote B b (L ++ Lib.itoa i) w w' := by
  have HB := Lib.hid (hb.keep (w' := (w.alloc (.cells #[.int .i64 2, .int .i64 i, .string t, .slice A n c, .slice K m d] 25))) ((Below.refl _ _).alloc (Nat.le_refl _) _))
  have HP := Lib.hid (hp.below (w' := (w.alloc (.cells #[.int .i64 2, .int .i64 i, .string t, .slice A n c, .slice K m d] 25))) ((Below.refl w.heap.size w).alloc (Nat.le_refl _) _) (by omega))
  have hbl := hb.lt
  clear hb hp
  go_enter Tryd.func44, Tryd.ntmps44
  go_wp2_with fail
  refine (itoa_any i (by omega) (by omega) _ HP.out).mono ?_
  rintro e v1 ⟨rfl, hv1⟩
  have Y1 := Lib.hid hv1
  have HB1 := Lib.hid (HB.out.keep hv1)
  have hz := hv1.size
  simp only [World.size_alloc] at hz
  clear hv1
  go_wp2_with fail
  refine (wstr B b L _ _ HB1.out (by have := Lib.itoa_length_le i (by omega) (by omega); simp [ByteArray.size]; omega) (by omega)).mono ?_
  rintro e v2 ⟨rfl, hw1⟩
  have X1 := Lib.hid hw1
  clear hw1
  go_wp2_with fail
  refine bodyPost_end (v := .tuple #[]) (by simp [results, Tryd.results44, go_sem]) rfl ⟨rfl, ?_⟩
  exact wrote_box (Wrote.after Y1.out X1.out (by simp; omega)) hB

set_option maxRecDepth 100000 in
set_option maxHeartbeats 2000000 in
theorem write_text (i : Int) (t : ByteArray) (n m : Nat) (w : World) (A K : Option Addr) (c d B b : Nat) (L : List UInt8) (hp : Pow w) (hb : Bld B b L w) (hB : B ≤ w.heap.size) (h0 : 0 < B) (hl : L.length + 410 ≤ 1000000) (ht : t.size ≤ 100) :
    Calls Tryd.prog 44 #[.pointer (some ⟨b, 0, none⟩), .agg #[.int .i64 3, .int .i64 i, .string t, .slice A n c, .slice K m d]] w fun e w' => e = .returned (.tuple #[]) ∧ Wrote B b (L ++ quoteB t.data.toList) w w' := by
  have HB := Lib.hid (hb.keep (w' := (w.alloc (.cells #[.int .i64 3, .int .i64 i, .string t, .slice A n c, .slice K m d] 25))) ((Below.refl _ _).alloc (Nat.le_refl _) _))
  have HP := Lib.hid (hp.below (w' := (w.alloc (.cells #[.int .i64 3, .int .i64 i, .string t, .slice A n c, .slice K m d] 25))) ((Below.refl w.heap.size w).alloc (Nat.le_refl _) _) (by omega))
  have hbl := hb.lt
  clear hb hp
  go_enter Tryd.func44, Tryd.ntmps44
  go_wp2_with fail
  refine (writeQuoted_any B b L t _ HB.out (by omega) (by simp; omega)).mono ?_
  rintro e v1 ⟨rfl, hw1⟩
  have X1 := Lib.hid hw1
  clear hw1
  go_wp2_with fail
  refine bodyPost_end (v := .tuple #[]) (by simp [results, Tryd.results44, go_sem]) rfl ⟨rfl, ?_⟩
  exact wrote_box X1.out hB

set_option maxRecDepth 100000 in
set_option maxHeartbeats 2000000 in
theorem write_list (U : List UInt8) (i : Int) (t : ByteArray) (n m : Nat) (w : World) (A K : Option Addr) (c d B b : Nat) (L : List UInt8) (hp : Pow w) (hb : Bld B b L w) (hB : B ≤ w.heap.size) (h0 : 0 < B) (hl : L.length + U.length + 410 ≤ 1000000) (HI : Hid (∀ (W : World) (L' : List UInt8), Below B w W → Pow W → Bld B b L' W → L'.length ≤ L.length + 1 → B ≤ W.heap.size → Calls Tryd.prog 65 #[.pointer (some ⟨b, 0, none⟩), .agg #[.int .i64 4, .int .i64 i, .string t, .slice A n c, .slice K m d]] W fun e w' => e = .returned (.tuple #[]) ∧ Wrote B b (L' ++ U) W w')) :
    Calls Tryd.prog 44 #[.pointer (some ⟨b, 0, none⟩), .agg #[.int .i64 4, .int .i64 i, .string t, .slice A n c, .slice K m d]] w fun e w' => e = .returned (.tuple #[]) ∧ Wrote B b (L ++ 91 :: (U ++ [93])) w w' := by
  have HB := Lib.hid (hb.keep (w' := (w.alloc (.cells #[.int .i64 4, .int .i64 i, .string t, .slice A n c, .slice K m d] 25))) ((Below.refl _ _).alloc (Nat.le_refl _) _))
  have HP := Lib.hid (hp.below (w' := (w.alloc (.cells #[.int .i64 4, .int .i64 i, .string t, .slice A n c, .slice K m d] 25))) ((Below.refl w.heap.size w).alloc (Nat.le_refl _) _) (by omega))
  have hbl := hb.lt
  clear hb hp
  go_enter Tryd.func44, Tryd.ntmps44
  go_wp2_with fail
  refine (wbyte B b L 91 _ rfl _ HB.out (by omega) (by simp; omega)).mono ?_
  rintro e v1 ⟨rfl, hw1⟩
  have q := hw1.block (Blk.new w _ _) (by omega) (by decide)
  have X1 := Lib.hid (wrote_box hw1 hB)
  have a0 : v1.cell? ⟨w.heap.size, 0, none⟩ = some (.int .i64 4) := q.cell 0
  have a1 : v1.cell? ⟨w.heap.size, 1, none⟩ = some (.int .i64 i) := q.cell 1
  have a2 : v1.cell? ⟨w.heap.size, 2, none⟩ = some (.string t) := q.cell 2
  have a3 : v1.cell? ⟨w.heap.size, 3, none⟩ = some (.slice A n c) := q.cell 3
  have a4 : v1.cell? ⟨w.heap.size, 4, none⟩ = some (.slice K m d) := q.cell 4
  have hz := X1.out.size
  clear hw1 q
  go_wp2_with fail
  refine (HI.out _ (L ++ [91]) X1.out.below (HP.out.keep ?_) X1.out.bld (by simp) (by omega)).mono ?_
  · rw [X1.out.below.block _ h0]; exact (((Below.refl w.heap.size w).alloc (Nat.le_refl _) _).block _ (by omega)).symm
  rintro e v2 ⟨rfl, hw2⟩
  have X2 := Lib.hid (X1.out.trans hw2)
  have hz2 := hw2.size
  clear hw2
  go_wp2_with fail
  refine (wbyte B b _ 93 _ rfl _ X2.out.bld (by simp only [List.length_append, List.length_singleton]; omega) (by omega)).mono ?_
  rintro e v3 ⟨rfl, hw3⟩
  have X3 := Lib.hid (X2.out.trans hw3)
  clear hw3
  go_wp2_with fail
  refine bodyPost_end (v := .tuple #[]) (by simp [results, Tryd.results44, go_sem]) rfl ⟨rfl, ?_⟩
  have := X3.out
  simpa [List.append_assoc] using this

set_option maxRecDepth 100000 in
set_option maxHeartbeats 2000000 in
theorem write_object (U : List UInt8) (i : Int) (t : ByteArray) (n m : Nat) (w : World) (A K : Option Addr) (c d B b : Nat) (L : List UInt8) (hp : Pow w) (hb : Bld B b L w) (hB : B ≤ w.heap.size) (h0 : 0 < B) (hl : L.length + U.length + 410 ≤ 1000000) (HI : Hid (∀ (W : World) (L' : List UInt8), Below B w W → Pow W → Bld B b L' W → L'.length ≤ L.length + 1 → B ≤ W.heap.size → Calls Tryd.prog 65 #[.pointer (some ⟨b, 0, none⟩), .agg #[.int .i64 5, .int .i64 i, .string t, .slice A n c, .slice K m d]] W fun e w' => e = .returned (.tuple #[]) ∧ Wrote B b (L' ++ U) W w')) :
    Calls Tryd.prog 44 #[.pointer (some ⟨b, 0, none⟩), .agg #[.int .i64 5, .int .i64 i, .string t, .slice A n c, .slice K m d]] w fun e w' => e = .returned (.tuple #[]) ∧ Wrote B b (L ++ 123 :: (U ++ [125])) w w' := by
  have HB := Lib.hid (hb.keep (w' := (w.alloc (.cells #[.int .i64 5, .int .i64 i, .string t, .slice A n c, .slice K m d] 25))) ((Below.refl _ _).alloc (Nat.le_refl _) _))
  have HP := Lib.hid (hp.below (w' := (w.alloc (.cells #[.int .i64 5, .int .i64 i, .string t, .slice A n c, .slice K m d] 25))) ((Below.refl w.heap.size w).alloc (Nat.le_refl _) _) (by omega))
  have hbl := hb.lt
  clear hb hp
  go_enter Tryd.func44, Tryd.ntmps44
  go_wp2_with fail
  refine (wbyte B b L 123 _ rfl _ HB.out (by omega) (by simp; omega)).mono ?_
  rintro e v1 ⟨rfl, hw1⟩
  have q := hw1.block (Blk.new w _ _) (by omega) (by decide)
  have X1 := Lib.hid (wrote_box hw1 hB)
  have a0 : v1.cell? ⟨w.heap.size, 0, none⟩ = some (.int .i64 5) := q.cell 0
  have a1 : v1.cell? ⟨w.heap.size, 1, none⟩ = some (.int .i64 i) := q.cell 1
  have a2 : v1.cell? ⟨w.heap.size, 2, none⟩ = some (.string t) := q.cell 2
  have a3 : v1.cell? ⟨w.heap.size, 3, none⟩ = some (.slice A n c) := q.cell 3
  have a4 : v1.cell? ⟨w.heap.size, 4, none⟩ = some (.slice K m d) := q.cell 4
  have hz := X1.out.size
  clear hw1 q
  go_wp2_with fail
  refine (HI.out _ (L ++ [123]) X1.out.below (HP.out.keep ?_) X1.out.bld (by simp) (by omega)).mono ?_
  · rw [X1.out.below.block _ h0]; exact (((Below.refl w.heap.size w).alloc (Nat.le_refl _) _).block _ (by omega)).symm
  rintro e v2 ⟨rfl, hw2⟩
  have X2 := Lib.hid (X1.out.trans hw2)
  have hz2 := hw2.size
  clear hw2
  go_wp2_with fail
  refine (wbyte B b _ 125 _ rfl _ X2.out.bld (by simp only [List.length_append, List.length_singleton]; omega) (by omega)).mono ?_
  rintro e v3 ⟨rfl, hw3⟩
  have X3 := Lib.hid (X2.out.trans hw3)
  clear hw3
  go_wp2_with fail
  refine bodyPost_end (v := .tuple #[]) (by simp [results, Tryd.results44, go_sem]) rfl ⟨rfl, ?_⟩
  have := X3.out
  simpa [List.append_assoc] using this

set_option maxRecDepth 100000 in
theorem write_any (N : Nat) : WriteSaid N := by
  induction N with
  | zero => intro x w A K c d B b l hx; have := x.nodes_pos; omega
  | succ N ih =>
    intro x w A K c d B b L hx hok h hp hb hl hB h0
    obtain ⟨k, i, t, l, ks⟩ := x
    have hs : V.sound (.mk k i t l ks) = true := by rw [V.ok] at hok; simp at hok; exact hok.1
    have hlen := V.write_len _ hok
    rw [V.nodes] at hx hl hlen
    simp only [V.kind, V.int, V.text, V.items, V.keys]
    rw [V.write] at hlen ⊢
    by_cases e0 : k = 0
    · subst e0; exact write_null i t _ _ w A K c d B b L hp hb hB h0 (by omega)
    rw [if_neg e0] at hlen ⊢
    by_cases e1 : k = 1
    · subst e1; exact write_truth i t _ _ w A K c d B b L hp hb hB h0 (by omega)
    rw [if_neg e1] at hlen ⊢
    by_cases e2 : k = 2
    · subst e2
      simp [V.sound] at hs
      exact write_int i t _ _ w A K c d B b L hp hb hB h0 (by omega) (by omega) (by omega)
    rw [if_neg e2] at hlen ⊢
    by_cases e3 : k = 3
    · subst e3
      simp [V.sound] at hs
      exact write_text i t _ _ w A K c d B b L hp hb hB h0 (by omega) (by have := textB_len hs.1.2; simpa using this)
    rw [if_neg e3] at hlen ⊢
    by_cases e4 : k = 4
    · subst e4
      rw [if_pos rfl] at hlen ⊢
      refine write_list (V.writeL false true l ks) i t _ _ w A K c d B b L hp hb hB h0 (by have := V.writeL_len false true l ks (ok_items hok) (fun h => by cases h); omega) (Lib.hid fun W L' hW hP hBd hL' hBW => ?_)
      exact writeItems_of N ih 4 i t l ks W A K c d B b L' (by omega) (ok_items hok) (fun h => by omega) (fun h => by omega) (h.below hW) hP hBd (by omega) hBW h0
    rw [if_neg e4] at hlen ⊢
    by_cases e5 : k = 5
    · subst e5
      refine write_object (V.writeL true true l ks) i t _ _ w A K c d B b L hp hb hB h0 (by have := V.writeL_len true true l ks (ok_items hok) (ok_object hok rfl); omega) (Lib.hid fun W L' hW hP hBd hL' hBW => ?_)
      exact writeItems_of N ih 5 i t l ks W A K c d B b L' (by omega) (ok_items hok) (fun _ => ok_keys hok rfl) (fun _ => ok_object hok rfl) (h.below hW) hP hBd (by omega) hBW h0
    · simp [V.sound, *] at hs

def TextPost (x : V) (w : World) (e : Ending) (w' : World) : Prop :=
  e = .returned (if x.valid then .tuple #[.string ⟨x.write.toArray⟩, .int .i64 0] else .tuple #[.string ⟨#[]⟩, .int .i64 1]) ∧ Below w.heap.size w w'

set_option maxRecDepth 100000 in
set_option maxHeartbeats 2000000 in
theorem text_any (x : V) (w : World) (A K : Option Addr) (c d : Nat) (h : Lies w w.heap.size x A c K d) (hp : Pow w) :
    Calls Tryd.prog 25 #[.agg #[.int .i64 x.kind, .int .i64 x.int, .string x.text, .slice A x.items.length c, .slice K x.keys.length d]] w (TextPost x w) := by
  have HV := Lib.hid fun W (hW : Below w.heap.size w W) => valid_any x W A K c d (Lies.keep (bcell hW) hW.size _ h)
  have HL := Lib.hid h
  have HP := Lib.hid hp
  have hpl := hp.lt
  clear h hp
  cases hv : x.valid
  · rw [hv] at HV
    have HX := Lib.hid hv
    clear hv
    go_enter Tryd.func25, Tryd.ntmps25
    go_wp2_with fail
    refine (HV.out _ ((Below.refl _ _).alloc (Nat.le_refl _) _)).mono ?_
    rintro e w' ⟨rfl, hb⟩
    go_wp2_with fail
    go_ret2
    go_light
    exact ⟨by rw [HX.out]; rfl, ((Below.refl _ _).alloc (Nat.le_refl _) _).trans (hb.mono (by simp))⟩
  · rw [hv] at HV
    have HX := Lib.hid hv
    have HO := Lib.hid (valid_ok hv)
    have HN := Lib.hid (show x.nodes ≤ 60 by unfold V.valid V.fits at hv; simp at hv; omega)
    clear hv
    go_enter Tryd.func25, Tryd.ntmps25
    go_wp2_with fail
    refine (HV.out _ ((Below.refl _ _).alloc (Nat.le_refl _) _)).mono ?_
    rintro e v1 ⟨rfl, hb⟩
    have HB := Lib.hid (((Below.refl w.heap.size w).alloc (Nat.le_refl _) _).trans (hb.mono (by simp)))
    have hz := hb.size
    simp only [World.size_alloc] at hz
    have hz1 : w.heap.size < v1.heap.size := by omega
    have hc := bcell hb
    have q0 : v1.cell? ⟨w.heap.size, 0, none⟩ = some (.int .i64 x.kind) := (hc w.heap.size 0 (by simp)).trans (by simp [go_sem])
    have q1 : v1.cell? ⟨w.heap.size, 1, none⟩ = some (.int .i64 x.int) := (hc w.heap.size 1 (by simp)).trans (by simp [go_sem])
    have q2 : v1.cell? ⟨w.heap.size, 2, none⟩ = some (.string x.text) := (hc w.heap.size 2 (by simp)).trans (by simp [go_sem])
    have q3 : v1.cell? ⟨w.heap.size, 3, none⟩ = some (.slice A x.items.length c) := (hc w.heap.size 3 (by simp)).trans (by simp [go_sem])
    have q4 : v1.cell? ⟨w.heap.size, 4, none⟩ = some (.slice K x.keys.length d) := (hc w.heap.size 4 (by simp)).trans (by simp [go_sem])
    clear hb hc
    go_wp2_with fail
    have hbl : Bld v1.heap.size v1.heap.size [] (v1.alloc (.cells #[.pointer none, .slice none 0 0] 59)) := Lib.IsBuilderF.of (Lib.fresh_isBuilder 59 5 v1)
    refine (write_any x.nodes x (v1.alloc (.cells #[.pointer none, .slice none 0 0] 59)) A K c d v1.heap.size v1.heap.size [] (Nat.le_refl _) HO.out (Lies.keep (bcell (HB.out.alloc (by omega) _)) (by omega) _ HL.out) (HP.out.below (HB.out.alloc (by omega) _) hpl) hbl (by have := HN.out; simp; omega) (by simp) (by omega)).mono ?_
    rintro e v2 ⟨rfl, hw2⟩
    have X2 := Lib.hid hw2
    have hz2 := hw2.size
    simp only [World.size_alloc] at hz2
    clear hw2 hbl
    go_wp2_with fail
    refine (bld_text _ _ _ _ X2.out.bld (by omega)).mono ?_
    rintro e v3 ⟨rfl, _, hb3, _⟩
    have X3 := Lib.hid hb3
    clear hb3
    go_wp2_with fail
    go_ret2
    go_light
    refine ⟨by rw [HX.out]; rfl, HB.out.trans ?_⟩
    exact ((Below.refl _ _).alloc (by omega) _).trans ((X2.out.below.mono (by omega)).trans (X3.out.mono (by omega)))
end Go.Proofs.YtoddlacfbeckiaaDoor
