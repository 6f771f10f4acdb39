/- The makers of values. -/
import Derived.Test.YtoddlacfbeckiaaDoorRg
import Derived.Test.YtoddlacfbeckiaaDoorWh
import Derived.Test.YtoddlacfbeckiaaDoorXc
import Derived.Test.YtoddlacfbeckiaaDoorRn
namespace Go.Proofs.YtoddlacfbeckiaaDoor
open Go.RowKit

set_option maxHeartbeats 1000000 in
theorem refNull_any (w : World) :
    Calls Tryd.prog 34 #[] w fun e w' => e = .returned (.agg #[.int .i64 0, .int .i64 0, .string ⟨#[]⟩, .slice none 0 0, .slice none 0 0]) ∧ Below w.heap.size w w' := by
  go_enter Tryd.func34, Tryd.ntmps34
  go_wp2_with fail
  refine bodyPost_ret (v := .agg #[.int .i64 0, .int .i64 0, .string ⟨#[]⟩, .slice none 0 0, .slice none 0 0]) (by simp [results, Tryd.results34, go_sem]) rfl ?_
  exact ⟨rfl, (Below.refl _ _).alloc (Nat.le_refl _) _⟩
set_option maxHeartbeats 1000000 in
theorem refList_any (A : Option Addr) (n c : Nat) (w : World) :
    Calls Tryd.prog 32 #[.slice A n c] w fun e w' => e = .returned (.agg #[.int .i64 4, .int .i64 0, .string ⟨#[]⟩, .slice A n c, .slice none 0 0]) ∧ Below w.heap.size w w' := by
  go_enter Tryd.func32, Tryd.ntmps32
  go_wp2_with fail
  refine bodyPost_ret (v := .agg #[.int .i64 4, .int .i64 0, .string ⟨#[]⟩, .slice A n c, .slice none 0 0]) (by simp [results, Tryd.results32, go_sem]) rfl ?_
  exact ⟨rfl, (Below.refl _ _).alloc (Nat.le_refl _) _⟩
set_option maxHeartbeats 1000000 in
theorem refObject_any (K A : Option Addr) (m d n c : Nat) (w : World) :
    Calls Tryd.prog 31 #[.slice K m d, .slice A n c] w fun e w' => e = .returned (.agg #[.int .i64 5, .int .i64 0, .string ⟨#[]⟩, .slice A n c, .slice K m d]) ∧ Below w.heap.size w w' := by
  go_enter Tryd.func31, Tryd.ntmps31
  go_wp2_with fail
  refine bodyPost_ret (v := .agg #[.int .i64 5, .int .i64 0, .string ⟨#[]⟩, .slice A n c, .slice K m d]) (by simp [results, Tryd.results31, go_sem]) rfl ?_
  exact ⟨rfl, (Below.refl _ _).alloc (Nat.le_refl _) _⟩

/-- The values of the chapter's examples. -/
def numT (n : Int) : V := .mk 2 n ⟨#[]⟩ [] []
def nullT : V := .mk 0 0 ⟨#[]⟩ [] []
def exA : V := .mk 5 0 ⟨#[]⟩ [.mk 4 0 ⟨#[]⟩ [numT 1, nullT] []] [⟨#[97]⟩]
def exB : V := .mk 4 0 ⟨#[]⟩ [numT 2] []
def exC : V := .mk 4 0 ⟨#[]⟩ [numT 2, nullT] []
def exD : V := .mk 5 0 ⟨#[]⟩ [numT 2, numT 1] [⟨#[97]⟩, ⟨#[98]⟩]
def numC (n : Int) : List Value := [.int .i64 2, .int .i64 n, .string ⟨#[]⟩, .slice none 0 0, .slice none 0 0]
def nullC : List Value := [.int .i64 0, .int .i64 0, .string ⟨#[]⟩, .slice none 0 0, .slice none 0 0]
theorem exA_facts : exA.valid = true ∧ exA.write = [123, 34, 97, 34, 58, 91, 49, 44, 110, 117, 108, 108, 93, 125] ∧ exA.nodes = 4 ∧ exA.depth = 3 := by decide +kernel
theorem exBC : exB.valid = true ∧ exC.valid = true ∧ exB.cmp exC = -1 := by decide +kernel
theorem exD_parse : parseP [123, 32, 34, 98, 34, 58, 49, 32, 44, 32, 34, 97, 34, 58, 50, 32, 125] = some exD := by kernel_rfl
theorem ex_bad : parseP [48, 49] = none := by kernel_rfl
theorem sz0 : (⟨#[]⟩ : ByteArray).size ≤ maxLen := by decide
theorem sz97 : (⟨#[97]⟩ : ByteArray).size ≤ maxLen := by decide
theorem sz98 : (⟨#[98]⟩ : ByteArray).size ≤ maxLen := by decide
theorem lies_num (W : World) (B : Nat) (n : Int) : Lies W B (numT n) none 0 none 0 := ⟨sz0, Nat.le_refl _, by simp [maxLen], ⟨Nat.le_refl _, by simp [maxLen], .inl rfl⟩, .inl rfl⟩
theorem lies_null (W : World) (B : Nat) : Lies W B nullT none 0 none 0 := ⟨sz0, Nat.le_refl _, by simp [maxLen], ⟨Nat.le_refl _, by simp [maxLen], .inl rfl⟩, .inl rfl⟩
theorem lies_exA {W : World} {B kb jb ib : Nat} {t0 t1 t2 : TypeId} (h0 : Blk W kb t0 #[.string ⟨#[97]⟩]) (h1 : Blk W jb t1 (numC 1 ++ nullC).toArray) (h2 : Blk W ib t2 #[.int .i64 4, .int .i64 0, .string ⟨#[]⟩, .slice (some ⟨jb, 0, none⟩) 2 2, .slice none 0 0]) (b0 : kb < B) (b1 : jb < B) (b2 : ib < B) :
    Lies W B exA (some ⟨ib, 0, none⟩) 1 (some ⟨kb, 0, none⟩) 1 := by
  have hj : LiesFrom W B [numT 1, nullT] jb 0 := ⟨⟨none, 0, none, 0, h1.cell 0, h1.cell 1, h1.cell 2, h1.cell 3, h1.cell 4, lies_num W B 1⟩, ⟨none, 0, none, 0, h1.cell 5, h1.cell 6, h1.cell 7, h1.cell 8, h1.cell 9, lies_null W B⟩, trivial⟩
  have hl : Lies W B (.mk 4 0 ⟨#[]⟩ [numT 1, nullT] []) (some ⟨jb, 0, none⟩) 2 none 0 := ⟨sz0, by simp, by simp [maxLen], ⟨by simp, by simp [maxLen], .inl rfl⟩, .inr ⟨jb, 0, rfl, b1, hj⟩⟩
  exact ⟨sz0, by simp, by simp [maxLen], ⟨by simp, by simp [maxLen], .inr ⟨kb, 0, rfl, b0, h0.cell 0, sz97, trivial⟩⟩, .inr ⟨ib, 0, rfl, b2, ⟨some ⟨jb, 0, none⟩, 2, none, 0, h2.cell 0, h2.cell 1, h2.cell 2, h2.cell 3, h2.cell 4, hl⟩, trivial⟩⟩
theorem lies_exB {W : World} {B jb : Nat} {t1 : TypeId} (h1 : Blk W jb t1 (numC 2).toArray) (b1 : jb < B) : Lies W B exB (some ⟨jb, 0, none⟩) 1 none 0 :=
  ⟨sz0, by simp, by simp [maxLen], ⟨by simp, by simp [maxLen], .inl rfl⟩, .inr ⟨jb, 0, rfl, b1, ⟨none, 0, none, 0, h1.cell 0, h1.cell 1, h1.cell 2, h1.cell 3, h1.cell 4, lies_num W B 2⟩, trivial⟩⟩
theorem lies_exC {W : World} {B jb : Nat} {t1 : TypeId} (h1 : Blk W jb t1 (numC 2 ++ nullC).toArray) (b1 : jb < B) : Lies W B exC (some ⟨jb, 0, none⟩) 2 none 0 :=
  ⟨sz0, by simp, by simp [maxLen], ⟨by simp, by simp [maxLen], .inl rfl⟩, .inr ⟨jb, 0, rfl, b1, ⟨none, 0, none, 0, h1.cell 0, h1.cell 1, h1.cell 2, h1.cell 3, h1.cell 4, lies_num W B 2⟩, ⟨none, 0, none, 0, h1.cell 5, h1.cell 6, h1.cell 7, h1.cell 8, h1.cell 9, lies_null W B⟩, trivial⟩⟩
theorem lies_exD {W : World} {B kb jb : Nat} {t0 t1 : TypeId} (h0 : Blk W kb t0 #[.string ⟨#[97]⟩, .string ⟨#[98]⟩]) (h1 : Blk W jb t1 (numC 2 ++ numC 1).toArray) (b0 : kb < B) (b1 : jb < B) : Lies W B exD (some ⟨jb, 0, none⟩) 2 (some ⟨kb, 0, none⟩) 2 :=
  ⟨sz0, by simp, by simp [maxLen], ⟨by simp, by simp [maxLen], .inr ⟨kb, 0, rfl, b0, h0.cell 0, sz97, h0.cell 1, sz98, trivial⟩⟩, .inr ⟨jb, 0, rfl, b1, ⟨none, 0, none, 0, h1.cell 0, h1.cell 1, h1.cell 2, h1.cell 3, h1.cell 4, lies_num W B 2⟩, ⟨none, 0, none, 0, h1.cell 5, h1.cell 6, h1.cell 7, h1.cell 8, h1.cell 9, lies_num W B 1⟩, trivial⟩⟩
theorem text_exA (W : World) (A K : Option Addr) (c d : Nat) (h : Lies W W.heap.size exA A c K d) (hp : Pow W) :
    Calls Tryd.prog 25 #[.agg #[.int .i64 5, .int .i64 0, .string ⟨#[]⟩, .slice A 1 c, .slice K 1 d]] W fun e w' => e = .returned (.tuple #[.string ⟨#[123, 34, 97, 34, 58, 91, 49, 44, 110, 117, 108, 108, 93, 125]⟩, .int .i64 0]) ∧ Below W.heap.size W w' :=
  (show Calls Tryd.prog 25 #[.agg #[.int .i64 5, .int .i64 0, .string ⟨#[]⟩, .slice A 1 c, .slice K 1 d]] W (TextPost exA W) from text_any exA W A K c d h hp).mono fun e w' he => by
    obtain ⟨he, hb⟩ := he
    rw [exA_facts.1, exA_facts.2.1] at he
    exact ⟨he, hb⟩
theorem size_exA (W : World) (A K : Option Addr) (c d : Nat) (h : Lies W W.heap.size exA A c K d) :
    Calls Tryd.prog 12 #[.agg #[.int .i64 5, .int .i64 0, .string ⟨#[]⟩, .slice A 1 c, .slice K 1 d]] W fun e w' => e = .returned (.tuple #[.int .i64 4, .int .i64 3, .int .i64 0]) ∧ Below W.heap.size W w' :=
  (show Calls Tryd.prog 12 #[.agg #[.int .i64 5, .int .i64 0, .string ⟨#[]⟩, .slice A 1 c, .slice K 1 d]] W (SizePost exA W) from size_any exA W A K c d h).mono fun e w' he => by
    obtain ⟨he, hb⟩ := he
    rw [exA_facts.1, exA_facts.2.2.1, exA_facts.2.2.2] at he
    exact ⟨he, hb⟩
theorem cmp_exBC (W : World) (A A' : Option Addr) (c c' : Nat) (h : Lies W W.heap.size exB A c none 0) (h' : Lies W W.heap.size exC A' c' none 0) :
    Calls Tryd.prog 23 #[.agg #[.int .i64 4, .int .i64 0, .string ⟨#[]⟩, .slice A 1 c, .slice none 0 0], .agg #[.int .i64 4, .int .i64 0, .string ⟨#[]⟩, .slice A' 2 c', .slice none 0 0]] W fun e w' => e = .returned (.tuple #[.int .i64 (-1), .int .i64 0]) ∧ Below W.heap.size W w' :=
  (show Calls Tryd.prog 23 #[.agg #[.int .i64 4, .int .i64 0, .string ⟨#[]⟩, .slice A 1 c, .slice none 0 0], .agg #[.int .i64 4, .int .i64 0, .string ⟨#[]⟩, .slice A' 2 c', .slice none 0 0]] W (CmpPost exB exC W) from compare_any exB exC W A none c 0 A' none c' 0 h h').mono fun e w' he => by
    obtain ⟨he, hb⟩ := he
    rw [exBC.1, exBC.2.1, exBC.2.2] at he
    exact ⟨he, hb⟩
theorem parse_exD (W : World) :
    Calls Tryd.prog 27 #[.string ⟨#[123, 32, 34, 98, 34, 58, 49, 32, 44, 32, 34, 97, 34, 58, 50, 32, 125]⟩] W fun e w' => ∃ A c K q, e = .returned (.tuple #[.agg #[.int .i64 5, .int .i64 0, .string ⟨#[]⟩, .slice A 2 c, .slice K 2 q], .int .i64 0]) ∧ Lies w' w'.heap.size exD A c K q ∧ Below W.heap.size W w' :=
  (parse_any ⟨#[123, 32, 34, 98, 34, 58, 49, 32, 44, 32, 34, 97, 34, 58, 50, 32, 125]⟩ (by decide) W).mono fun e w' he => by
    rw [show parseP (⟨#[123, 32, 34, 98, 34, 58, 49, 32, 44, 32, 34, 97, 34, 58, 50, 32, 125]⟩ : ByteArray).data.toList = some exD from exD_parse] at he
    obtain ⟨A, c, K, q, he, hl, hb⟩ := he
    exact ⟨A, c, K, q, he, LiesIn.lies (fun b h => h.2) exD hl, hb⟩
theorem parse_bad (W : World) :
    Calls Tryd.prog 27 #[.string ⟨#[48, 49]⟩] W fun e w' => e = .returned (.tuple #[.agg #[.int .i64 0, .int .i64 0, .string ⟨#[]⟩, .slice none 0 0, .slice none 0 0], .int .i64 14]) ∧ Below W.heap.size W w' :=
  (parse_any ⟨#[48, 49]⟩ (by decide) W).mono fun e w' he => by
    rw [show parseP (⟨#[48, 49]⟩ : ByteArray).data.toList = none from ex_bad] at he
    exact he
theorem same_exD (W : World) (A K A' K' : Option Addr) (c d c' d' : Nat) (h : Lies W W.heap.size exD A c K d) (h' : Lies W W.heap.size exD A' c' K' d') :
    Calls Tryd.prog 20 #[.agg #[.int .i64 5, .int .i64 0, .string ⟨#[]⟩, .slice A 2 c, .slice K 2 d], .agg #[.int .i64 5, .int .i64 0, .string ⟨#[]⟩, .slice A' 2 c', .slice K' 2 d']] W fun e w' => e = .returned (.bool true) ∧ Below W.heap.size W w' :=
  (show Calls Tryd.prog 20 #[.agg #[.int .i64 5, .int .i64 0, .string ⟨#[]⟩, .slice A 2 c, .slice K 2 d], .agg #[.int .i64 5, .int .i64 0, .string ⟨#[]⟩, .slice A' 2 c', .slice K' 2 d']] W (SamePost (exD = exD) W) from same_any exD.nodes exD exD W A K c d A' K' c' d' (Nat.le_refl _) h h').mono fun e w' he => by
    obtain ⟨b, he, hb, hw⟩ := he
    rw [hb.2 rfl] at he
    exact ⟨he, hw⟩
/-- What lies in old blocks lies there still. -/
theorem lies_on {w w' : World} {x : V} {A K : Option Addr} {c d : Nat} (h : Lies w w.heap.size x A c K d) (hb : Below w.heap.size w w') : Lies w' w'.heap.size x A c K d := Lies.keep (bcell hb) hb.size _ h
theorem lies_alloc {w : World} {x : V} {A K : Option Addr} {c d : Nat} (h : Lies w w.heap.size x A c K d) (o : Obj) : Lies (w.alloc o) (w.alloc o).heap.size x A c K d := lies_on h ((Below.refl _ _).alloc (Nat.le_refl _) _)
theorem below_on {w a b : World} (h : Below w.heap.size w a) (hb : Below a.heap.size a b) : Below w.heap.size w b := h.trans (hb.mono h.size)
theorem below_al {w a : World} (h : Below w.heap.size w a) (o : Obj) : Below w.heap.size w (a.alloc o) := h.alloc h.size o
theorem Pow.on {w a : World} (h : Pow w) (hb : Below w.heap.size w a) : Pow a := h.below hb h.lt
end Go.Proofs.YtoddlacfbeckiaaDoor
