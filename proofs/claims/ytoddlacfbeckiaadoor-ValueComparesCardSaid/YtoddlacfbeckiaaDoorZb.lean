/- The law on comparing, walked. -/
import Derived.Test.YtoddlacfbeckiaaDoorXe
namespace Go.Proofs.YtoddlacfbeckiaaDoor
open Go.RowKit

def aggOf (x : V) (A : Option Addr) (c : Nat) (K : Option Addr) (d : Nat) : Value := .agg #[.int .i64 x.kind, .int .i64 x.int, .string x.text, .slice A x.items.length c, .slice K x.keys.length d]

set_option maxRecDepth 100000 in
set_option maxHeartbeats 4000000 in
theorem law_compares (x y : V) (w : World) (A K : Option Addr) (c d : Nat) (A' K' : Option Addr) (c' d' : Nat) (h : Lies w w.heap.size x A c K d) (h' : Lies w w.heap.size y A' c' K' d') (hp : Pow w) :
    Calls Tryd.prog 4 #[aggOf x A c K d, aggOf y A' c' K' d'] w fun e w' => e = .returned (.bool true) ∧ Below w.heap.size w w' := by
  have HP := Lib.hid hp
  have HC := Lib.hid fun W (hW : Below w.heap.size w W) => compare_any x y W A K c d A' K' c' d' (lies_on h hW) (lies_on h' hW)
  have HR := Lib.hid fun W (hW : Below w.heap.size w W) => refCompare_any x y W A K c d A' K' c' d' (lies_on h hW) (lies_on h' hW)
  have HA := Lib.hid fun W (hW : Below w.heap.size w W) => awake_any W (hp.on hW)
  clear h h' hp
  obtain ⟨r, n, hr⟩ : ∃ r n : Int, (if x.valid && y.valid then Value.tuple #[.int .i64 (x.cmp y), .int .i64 0] else .tuple #[.int .i64 0, .int .i64 1]) = .tuple #[.int .i64 r, .int .i64 n] := by
    split
    · exact ⟨_, _, rfl⟩
    · exact ⟨_, _, rfl⟩
  unfold CmpPost at HC HR
  rw [hr] at HC HR
  clear hr
  unfold aggOf
  go_enter Tryd.func4, Tryd.ntmps4
  go_wp2_with fail
  refine (HC.out _ (below_al (below_al (Below.refl _ w) _) _)).mono ?_
  rintro e w1 ⟨rfl, h1⟩
  have b0 : Blk w1 w.heap.size 25 #[.int .i64 x.kind, .int .i64 x.int, .string x.text, .slice A x.items.length c, .slice K x.keys.length d] := ((Blk.new w 25 #[.int .i64 x.kind, .int .i64 x.int, .string x.text, .slice A x.items.length c, .slice K x.keys.length d]).alloc _).below h1 (by simp; omega)
  have b1 : Blk w1 (w.heap.size + 1) 25 #[.int .i64 y.kind, .int .i64 y.int, .string y.text, .slice A' y.items.length c', .slice K' y.keys.length d'] := (Blk.newAt (w.alloc (.cells #[.int .i64 x.kind, .int .i64 x.int, .string x.text, .slice A x.items.length c, .slice K x.keys.length d] 25)) 25 #[.int .i64 y.kind, .int .i64 y.int, .string y.text, .slice A' y.items.length c', .slice K' y.keys.length d'] (by simp)).below h1 (by simp)
  have x0 : w1.cell? ⟨w.heap.size, 0, none⟩ = some (.int .i64 x.kind) := b0.cell 0
  have x1 : w1.cell? ⟨w.heap.size, 1, none⟩ = some (.int .i64 x.int) := b0.cell 1
  have x2 : w1.cell? ⟨w.heap.size, 2, none⟩ = some (.string x.text) := b0.cell 2
  have x3 : w1.cell? ⟨w.heap.size, 3, none⟩ = some (.slice A x.items.length c) := b0.cell 3
  have x4 : w1.cell? ⟨w.heap.size, 4, none⟩ = some (.slice K x.keys.length d) := b0.cell 4
  have y0 : w1.cell? ⟨w.heap.size + 1, 0, none⟩ = some (.int .i64 y.kind) := b1.cell 0
  have y1 : w1.cell? ⟨w.heap.size + 1, 1, none⟩ = some (.int .i64 y.int) := b1.cell 1
  have y2 : w1.cell? ⟨w.heap.size + 1, 2, none⟩ = some (.string y.text) := b1.cell 2
  have y3 : w1.cell? ⟨w.heap.size + 1, 3, none⟩ = some (.slice A' y.items.length c') := b1.cell 3
  have y4 : w1.cell? ⟨w.heap.size + 1, 4, none⟩ = some (.slice K' y.keys.length d') := b1.cell 4
  have HW1 := Lib.hid (below_on (below_al (below_al (Below.refl _ w) (.cells #[.int .i64 x.kind, .int .i64 x.int, .string x.text, .slice A x.items.length c, .slice K x.keys.length d] 25)) (.cells #[.int .i64 y.kind, .int .i64 y.int, .string y.text, .slice A' y.items.length c', .slice K' y.keys.length d'] 25)) h1)
  clear b0 b1 h1
  go_wp2_with fail
  refine (HR.out _ HW1.out).mono ?_
  rintro e w2 ⟨rfl, h2⟩
  have HW2 := Lib.hid (below_on HW1.out h2)
  clear h2 x0 x1 x2 x3 x4 y0 y1 y2 y3 y4
  go_wp2_with fail
  refine (HA.out _ HW2.out).mono ?_
  rintro e w3 ⟨rfl, h3⟩
  have HW3 := Lib.hid (below_on HW2.out h3)
  clear h3
  go_wp2_with fail
  go_ret
  exact ⟨rfl, HW3.out⟩
end Go.Proofs.YtoddlacfbeckiaaDoor
