/- Reading a text whole: the contract. -/
import Derived.Test.YtchadlbhdcpojaaDoorWz
import Derived.Test.YtchadlbhdcpojaaDoorRg
import Derived.Test.YtchadlbhdcpojaaDoorWf
import Derived.Test.YtchadlbhdcpojaaDoorRk
namespace Go.Proofs.YtchadlbhdcpojaaDoor
open Go.RowKit

/-- What reading leaves. -/
def PPost (w : World) : Option V → Ending → World → Prop
  | none, e, w' => e = .returned (.tuple #[cellsOf (leaf 0 0 ⟨#[]⟩) none 0 none 0, .int .i64 14]) ∧ Below w.heap.size w w'
  | some x, e, w' => ∃ A c K q, e = .returned (.tuple #[cellsOf x A c K q, .int .i64 0]) ∧ LiesIn (Fresh w w') w' x A c K q ∧ Below w.heap.size w w'
theorem parse_some {s : ByteArray} {x : V} {l : List UInt8} {n : Nat} (h : valueP 6 0 (sfx s 0) = some (x, l, n)) : parseP s.data.toList = if skipP l = [] then some x else none := by
  unfold sfx at h
  rw [List.drop_zero] at h
  rw [parseP, h]
theorem parse_none {s : ByteArray} (h : valueP 6 0 (sfx s 0) = none) : parseP s.data.toList = none := by
  unfold sfx at h
  rw [List.drop_zero] at h
  rw [parseP, h]

theorem below_set {a b : World} {B : Nat} (h : Below B a b) (p : Addr) (v : Value) (hp : B ≤ p.block) : Below B a (b.setCell p v) := h.trans ⟨rfl, rfl, rfl, by simp [World.setCell], fun i hi => Below.heap_setCell b p v i (by omega)⟩
theorem below_put5 {a b : World} {B g : Nat} (h : Below B a b) (hg : B ≤ g) (v0 v1 v2 v3 v4 : Value) : Below B a (put5 b g 0 v0 v1 v2 v3 v4) :=
  below_set (below_set (below_set (below_set (below_set h _ _ hg) _ _ hg) _ _ hg) _ _ hg) _ _ hg
theorem below_drew {a b : World} {B : Nat} (h : Below B a b) : Below B a b.drew := ⟨h.os, h.tape, h.output, h.size, h.block⟩
theorem parse_done {w W2 w3 : World} {x : V} {A K : Option Addr} {c q m : Nat} (hL : LiesIn (fun b => w.heap.size + 3 ≤ b ∧ b < W2.heap.size) W2 x A c K q) (hW : W2.grownBy w3 (some (w.heap.size + 2))) (hB : Below w.heap.size w w3) :
    PPost w (some x) (.returned (.tuple #[.agg #[.int .i64 x.kind, .int .i64 x.int, .string x.text, .slice A x.items.length c, .slice K x.keys.length q], .int .i64 0])) ((put5 (w3.drewN m) w.heap.size 0 (.int .i64 x.kind) (.int .i64 x.int) (.string x.text) (.slice A x.items.length c) (.slice K x.keys.length q)).setCell ⟨w.heap.size + 1, 0, none⟩ (.int .i64 0)) := by
  have hsz : ((put5 (w3.drewN m) w.heap.size 0 (.int .i64 x.kind) (.int .i64 x.int) (.string x.text) (.slice A x.items.length c) (.slice K x.keys.length q)).setCell ⟨w.heap.size + 1, 0, none⟩ (.int .i64 0)).heap.size = w3.heap.size := by
    have := put5_size (w3.drewN m) w.heap.size 0 (.int .i64 x.kind) (.int .i64 x.int) (.string x.text) (.slice A x.items.length c) (.slice K x.keys.length q)
    simp only [World.setCell, Array.size_modify]
    exact this
  have hs := hW.size
  refine ⟨A, c, K, q, rfl, LiesIn.keep (fun b o hb => World.cell?_of_block ?_) (fun b hb => ⟨by have := hb.1; omega, by rw [hsz]; have := hb.2; omega⟩) x hL, below_set (below_put5 (below_drewN hB m) (Nat.le_refl _) _ _ _ _ _) _ _ (Nat.le_succ _)⟩
  have h1 := hb.1
  rw [Below.heap_setCell _ _ _ _ (show b ≠ w.heap.size + 1 by omega), put5_heap _ _ _ _ _ _ _ _ (show b ≠ w.heap.size by omega)]
  exact hW.block b hb.2 (by simp; omega)
theorem leaves_same {P : Program} {fn : Func} {t t' : Array Value} {R : Ending → World → Prop} (h : results fn t = results fn t') : ∀ (ds : List Deferred) (u : FrameMode) (w : World), Leaves P fn t R ds u w = Leaves P fn t' R ds u w
  | [], .returning, w => by simp only [Leaves, h]
  | [], .panicking _, w => rfl
  | [], .run, _ => rfl
  | d :: ds, u, w => by
    have ih := leaves_same (P := P) (R := R) h ds
    simp only [Leaves, ih]
end Go.Proofs.YtchadlbhdcpojaaDoor
/- The makers of values. -/
namespace Go.Proofs.YtchadlbhdcpojaaDoor
open Go.RowKit

set_option maxHeartbeats 1000000 in
theorem refNull_any (w : World) :
    Calls Tryd.prog 13 #[] w fun e w' => e = .returned (.agg #[.int .i64 0, .int .i64 0, .string ⟨#[]⟩, .slice none 0 0, .slice none 0 0]) ∧ Below w.heap.size w w' := by
  go_enter Tryd.func13, Tryd.ntmps13
  go_wp2_with fail
  refine bodyPost_ret (v := .agg #[.int .i64 0, .int .i64 0, .string ⟨#[]⟩, .slice none 0 0, .slice none 0 0]) (by simp [results, Tryd.results13, go_sem]) rfl ?_
  exact ⟨rfl, (Below.refl _ _).alloc (Nat.le_refl _) _⟩
set_option maxHeartbeats 1000000 in
theorem refList_any (A : Option Addr) (n c : Nat) (w : World) :
    Calls Tryd.prog 15 #[.slice A n c] w fun e w' => e = .returned (.agg #[.int .i64 4, .int .i64 0, .string ⟨#[]⟩, .slice A n c, .slice none 0 0]) ∧ Below w.heap.size w w' := by
  go_enter Tryd.func15, Tryd.ntmps15
  go_wp2_with fail
  refine bodyPost_ret (v := .agg #[.int .i64 4, .int .i64 0, .string ⟨#[]⟩, .slice A n c, .slice none 0 0]) (by simp [results, Tryd.results15, go_sem]) rfl ?_
  exact ⟨rfl, (Below.refl _ _).alloc (Nat.le_refl _) _⟩
set_option maxHeartbeats 1000000 in
theorem refObject_any (K A : Option Addr) (m d n c : Nat) (w : World) :
    Calls Tryd.prog 17 #[.slice K m d, .slice A n c] w fun e w' => e = .returned (.agg #[.int .i64 5, .int .i64 0, .string ⟨#[]⟩, .slice A n c, .slice K m d]) ∧ Below w.heap.size w w' := by
  go_enter Tryd.func17, Tryd.ntmps17
  go_wp2_with fail
  refine bodyPost_ret (v := .agg #[.int .i64 5, .int .i64 0, .string ⟨#[]⟩, .slice A n c, .slice K m d]) (by simp [results, Tryd.results17, go_sem]) rfl ?_
  exact ⟨rfl, (Below.refl _ _).alloc (Nat.le_refl _) _⟩

/-- The values of the chapter's examples. -/
def numT (n : Int) : V := .mk 2 n ⟨#[]⟩ [] []
def nullT : V := .mk 0 0 ⟨#[]⟩ [] []
def exA : V := .mk 5 0 ⟨#[]⟩ [.mk 4 0 ⟨#[]⟩ [numT 1, nullT] []] [⟨#[97]⟩]
def exB : V := .mk 4 0 ⟨#[]⟩ [numT 2] []
def exC : V := .mk 4 0 ⟨#[]⟩ [numT 2, nullT] []
def exD : V := .mk 5 0 ⟨#[]⟩ [numT 2, numT 1] [⟨#[97]⟩, ⟨#[98]⟩]
def numC (n : Int) : List Value := [.int .i64 2, .int .i64 n, .string ⟨#[]⟩, .slice none 0 0, .slice none 0 0]
def nullC : List Value := [.int .i64 0, .int .i64 0, .string ⟨#[]⟩, .slice none 0 0, .slice none 0 0]
theorem exA_facts : exA.valid = true ∧ exA.write = [123, 34, 97, 34, 58, 91, 49, 44, 110, 117, 108, 108, 93, 125] ∧ exA.nodes = 4 ∧ exA.depth = 3 := by decide +kernel
theorem exBC : exB.valid = true ∧ exC.valid = true ∧ exB.cmp exC = -1 := by decide +kernel
theorem exD_parse : parseP [123, 32, 34, 98, 34, 58, 49, 32, 44, 32, 34, 97, 34, 58, 50, 32, 125] = some exD := by kernel_rfl
theorem ex_bad : parseP [48, 49] = none := by kernel_rfl
theorem sz0 : (⟨#[]⟩ : ByteArray).size ≤ maxLen := by decide
theorem sz97 : (⟨#[97]⟩ : ByteArray).size ≤ maxLen := by decide
theorem sz98 : (⟨#[98]⟩ : ByteArray).size ≤ maxLen := by decide
theorem lies_num (W : World) (B : Nat) (n : Int) : Lies W B (numT n) none 0 none 0 := ⟨sz0, Nat.le_refl _, by simp [maxLen], ⟨Nat.le_refl _, by simp [maxLen], .inl rfl⟩, .inl rfl⟩
theorem lies_null (W : World) (B : Nat) : Lies W B nullT none 0 none 0 := ⟨sz0, Nat.le_refl _, by simp [maxLen], ⟨Nat.le_refl _, by simp [maxLen], .inl rfl⟩, .inl rfl⟩
theorem lies_exA {W : World} {B kb jb ib : Nat} {t0 t1 t2 : TypeId} (h0 : BlockIs W kb t0 #[.string ⟨#[97]⟩]) (h1 : BlockIs W jb t1 (numC 1 ++ nullC).toArray) (h2 : BlockIs W ib t2 #[.int .i64 4, .int .i64 0, .string ⟨#[]⟩, .slice (some ⟨jb, 0, none⟩) 2 2, .slice none 0 0]) (b0 : kb < B) (b1 : jb < B) (b2 : ib < B) :
    Lies W B exA (some ⟨ib, 0, none⟩) 1 (some ⟨kb, 0, none⟩) 1 := by
  have hj : LiesFrom W B [numT 1, nullT] jb 0 := ⟨⟨none, 0, none, 0, h1.cell 0, h1.cell 1, h1.cell 2, h1.cell 3, h1.cell 4, lies_num W B 1⟩, ⟨none, 0, none, 0, h1.cell 5, h1.cell 6, h1.cell 7, h1.cell 8, h1.cell 9, lies_null W B⟩, trivial⟩
  have hl : Lies W B (.mk 4 0 ⟨#[]⟩ [numT 1, nullT] []) (some ⟨jb, 0, none⟩) 2 none 0 := ⟨sz0, by simp, by simp [maxLen], ⟨by simp, by simp [maxLen], .inl rfl⟩, .inr ⟨jb, 0, rfl, b1, hj⟩⟩
  exact ⟨sz0, by simp, by simp [maxLen], ⟨by simp, by simp [maxLen], .inr ⟨kb, 0, rfl, b0, h0.cell 0, sz97, trivial⟩⟩, .inr ⟨ib, 0, rfl, b2, ⟨some ⟨jb, 0, none⟩, 2, none, 0, h2.cell 0, h2.cell 1, h2.cell 2, h2.cell 3, h2.cell 4, hl⟩, trivial⟩⟩
theorem lies_exB {W : World} {B jb : Nat} {t1 : TypeId} (h1 : BlockIs W jb t1 (numC 2).toArray) (b1 : jb < B) : Lies W B exB (some ⟨jb, 0, none⟩) 1 none 0 :=
  ⟨sz0, by simp, by simp [maxLen], ⟨by simp, by simp [maxLen], .inl rfl⟩, .inr ⟨jb, 0, rfl, b1, ⟨none, 0, none, 0, h1.cell 0, h1.cell 1, h1.cell 2, h1.cell 3, h1.cell 4, lies_num W B 2⟩, trivial⟩⟩
theorem lies_exC {W : World} {B jb : Nat} {t1 : TypeId} (h1 : BlockIs W jb t1 (numC 2 ++ nullC).toArray) (b1 : jb < B) : Lies W B exC (some ⟨jb, 0, none⟩) 2 none 0 :=
  ⟨sz0, by simp, by simp [maxLen], ⟨by simp, by simp [maxLen], .inl rfl⟩, .inr ⟨jb, 0, rfl, b1, ⟨none, 0, none, 0, h1.cell 0, h1.cell 1, h1.cell 2, h1.cell 3, h1.cell 4, lies_num W B 2⟩, ⟨none, 0, none, 0, h1.cell 5, h1.cell 6, h1.cell 7, h1.cell 8, h1.cell 9, lies_null W B⟩, trivial⟩⟩
theorem lies_exD {W : World} {B kb jb : Nat} {t0 t1 : TypeId} (h0 : BlockIs W kb t0 #[.string ⟨#[97]⟩, .string ⟨#[98]⟩]) (h1 : BlockIs W jb t1 (numC 2 ++ numC 1).toArray) (b0 : kb < B) (b1 : jb < B) : Lies W B exD (some ⟨jb, 0, none⟩) 2 (some ⟨kb, 0, none⟩) 2 :=
  ⟨sz0, by simp, by simp [maxLen], ⟨by simp, by simp [maxLen], .inr ⟨kb, 0, rfl, b0, h0.cell 0, sz97, h0.cell 1, sz98, trivial⟩⟩, .inr ⟨jb, 0, rfl, b1, ⟨none, 0, none, 0, h1.cell 0, h1.cell 1, h1.cell 2, h1.cell 3, h1.cell 4, lies_num W B 2⟩, ⟨none, 0, none, 0, h1.cell 5, h1.cell 6, h1.cell 7, h1.cell 8, h1.cell 9, lies_num W B 1⟩, trivial⟩⟩
theorem text_exA (W : World) (A K : Option Addr) (c d : Nat) (h : Lies W W.heap.size exA A c K d) (hp : Pow W) :
    Calls Tryd.prog 39 #[.agg #[.int .i64 5, .int .i64 0, .string ⟨#[]⟩, .slice A 1 c, .slice K 1 d]] W fun e w' => e = .returned (.tuple #[.string ⟨#[123, 34, 97, 34, 58, 91, 49, 44, 110, 117, 108, 108, 93, 125]⟩, .int .i64 0]) ∧ Below W.heap.size W w' :=
  (show Calls Tryd.prog 39 #[.agg #[.int .i64 5, .int .i64 0, .string ⟨#[]⟩, .slice A 1 c, .slice K 1 d]] W (TextPost exA W) from text_any exA W A K c d h hp).mono fun e w' he => by
    obtain ⟨he, hb⟩ := he
    rw [exA_facts.1, exA_facts.2.1] at he
    exact ⟨he, hb⟩
theorem cmp_exBC (W : World) (A A' : Option Addr) (c c' : Nat) (h : Lies W W.heap.size exB A c none 0) (h' : Lies W W.heap.size exC A' c' none 0) :
    Calls Tryd.prog 63 #[.agg #[.int .i64 4, .int .i64 0, .string ⟨#[]⟩, .slice A 1 c, .slice none 0 0], .agg #[.int .i64 4, .int .i64 0, .string ⟨#[]⟩, .slice A' 2 c', .slice none 0 0]] W fun e w' => e = .returned (.tuple #[.int .i64 (-1), .int .i64 0]) ∧ Below W.heap.size W w' :=
  (show Calls Tryd.prog 63 #[.agg #[.int .i64 4, .int .i64 0, .string ⟨#[]⟩, .slice A 1 c, .slice none 0 0], .agg #[.int .i64 4, .int .i64 0, .string ⟨#[]⟩, .slice A' 2 c', .slice none 0 0]] W (CmpPost exB exC W) from compare_any exB exC W A none c 0 A' none c' 0 h h').mono fun e w' he => by
    obtain ⟨he, hb⟩ := he
    rw [exBC.1, exBC.2.1, exBC.2.2] at he
    exact ⟨he, hb⟩
theorem same_exD (W : World) (A K A' K' : Option Addr) (c d c' d' : Nat) (h : Lies W W.heap.size exD A c K d) (h' : Lies W W.heap.size exD A' c' K' d') :
    Calls Tryd.prog 8 #[.agg #[.int .i64 5, .int .i64 0, .string ⟨#[]⟩, .slice A 2 c, .slice K 2 d], .agg #[.int .i64 5, .int .i64 0, .string ⟨#[]⟩, .slice A' 2 c', .slice K' 2 d']] W fun e w' => e = .returned (.bool true) ∧ Below W.heap.size W w' :=
  (show Calls Tryd.prog 8 #[.agg #[.int .i64 5, .int .i64 0, .string ⟨#[]⟩, .slice A 2 c, .slice K 2 d], .agg #[.int .i64 5, .int .i64 0, .string ⟨#[]⟩, .slice A' 2 c', .slice K' 2 d']] W (SamePost (exD = exD) W) from same_any exD.nodes exD exD W A K c d A' K' c' d' (Nat.le_refl _) h h').mono fun e w' he => by
    obtain ⟨b, he, hb, hw⟩ := he
    rw [hb.2 rfl] at he
    exact ⟨he, hw⟩
/-- What lies in old blocks lies there still. -/
theorem lies_on {w w' : World} {x : V} {A K : Option Addr} {c d : Nat} (h : Lies w w.heap.size x A c K d) (hb : Below w.heap.size w w') : Lies w' w'.heap.size x A c K d := Lies.keep (bcell hb) hb.size _ h
theorem lies_alloc {w : World} {x : V} {A K : Option Addr} {c d : Nat} (h : Lies w w.heap.size x A c K d) (o : Obj) : Lies (w.alloc o) (w.alloc o).heap.size x A c K d := lies_on h ((Below.refl _ _).alloc (Nat.le_refl _) _)
theorem below_on {w a b : World} (h : Below w.heap.size w a) (hb : Below a.heap.size a b) : Below w.heap.size w b := h.trans (hb.mono h.size)
theorem below_al {w a : World} (h : Below w.heap.size w a) (o : Obj) : Below w.heap.size w (a.alloc o) := h.alloc h.size o
theorem Pow.on {w a : World} (h : Pow w) (hb : Below w.heap.size w a) : Pow a := h.below hb h.lt
end Go.Proofs.YtchadlbhdcpojaaDoor
