/- Three small comparisons; two boxed values. -/
import Derived.Test.YtoddlacfbeckiaaDoorPb
import Derived.Test.YtoddlacfbeckiaaDoorRf
namespace Go.Proofs.YtoddlacfbeckiaaDoor
open Go.RowKit

set_option maxHeartbeats 400000 in
theorem cmpInt_any (a b : Int) (w : World) :
    Calls Tryd.prog 56 #[.int .i64 a, .int .i64 b] w fun e w' => e = .returned (.int .i64 (cmpI a b)) ∧ w' = w := by
  rcases (by omega : a < b ∨ ¬ a < b ∧ b < a ∨ ¬ a < b ∧ ¬ b < a) with h | ⟨h, h'⟩ | ⟨h, h'⟩
  · rw [cmpI, if_pos h]
    go_enter Tryd.func56, Tryd.ntmps56
    go_wp2
    go_ret
    exact ⟨rfl, rfl⟩
  · rw [cmpI, if_neg h, if_pos h']
    go_enter Tryd.func56, Tryd.ntmps56
    go_wp2
    go_ret
    exact ⟨rfl, rfl⟩
  · rw [cmpI, if_neg h, if_neg h']
    go_enter Tryd.func56, Tryd.ntmps56
    go_wp2
    go_ret
    exact ⟨rfl, rfl⟩
set_option maxHeartbeats 400000 in
theorem cmpStr_any (a b : ByteArray) (w : World) :
    Calls Tryd.prog 57 #[.string a, .string b] w fun e w' => e = .returned (.int .i64 (cmpS a b)) ∧ w' = w := by
  unfold cmpS ltB
  cases h1 : Op.bytesLess a.toList b.toList
  all_goals cases h2 : a.toList == b.toList
  all_goals go_enter Tryd.func57, Tryd.ntmps57
  all_goals go_wp2
  all_goals go_ret
  all_goals exact ⟨rfl, rfl⟩
theorem sign_any (lt eq : Bool) (w : World) :
    Calls Tryd.prog 59 #[.bool lt, .bool eq] w fun e w' => e = .returned (.int .i64 (sgn lt eq)) ∧ w' = w := by
  cases lt
  all_goals cases eq
  all_goals go_enter Tryd.func59, Tryd.ntmps59
  all_goals go_wp2
  all_goals go_ret
  all_goals exact ⟨rfl, rfl⟩
theorem box2a {w wr : World} {cs cs' : Array Value} {t t' : TypeId} (h : Below (w.heap.size + 2) ((w.alloc (.cells cs t)).alloc (.cells cs' t')) wr) (j : Nat) : wr.cell? ⟨w.heap.size, j, none⟩ = cs[j]? :=
  (bcell h w.heap.size j (by omega)).trans (by simp [go_sem])
theorem box2b {w wr : World} {cs cs' : Array Value} {t t' : TypeId} (h : Below (w.heap.size + 2) ((w.alloc (.cells cs t)).alloc (.cells cs' t')) wr) (j : Nat) : wr.cell? ⟨w.heap.size + 1, j, none⟩ = cs'[j]? :=
  (bcell h (w.heap.size + 1) j (by omega)).trans (by simp [go_sem])
theorem box2 {w wr : World} {o o' : Obj} (h : Below (w.heap.size + 2) ((w.alloc o).alloc o') wr) : Below w.heap.size w wr :=
  (((Below.refl _ _).alloc (Nat.le_refl _) _).alloc (by simp) _).trans (h.mono (by omega))
theorem box2all {w wr : World} {a0 a1 a2 a3 a4 b0 b1 b2 b3 b4 : Value} {t t' : TypeId} (h : Below (w.heap.size + 2) ((w.alloc (.cells #[a0, a1, a2, a3, a4] t)).alloc (.cells #[b0, b1, b2, b3, b4] t')) wr) :
    wr.cell? ⟨w.heap.size, 0, none⟩ = some a0 ∧ wr.cell? ⟨w.heap.size, 1, none⟩ = some a1 ∧ wr.cell? ⟨w.heap.size, 2, none⟩ = some a2 ∧ wr.cell? ⟨w.heap.size, 3, none⟩ = some a3 ∧ wr.cell? ⟨w.heap.size, 4, none⟩ = some a4 ∧
    wr.cell? ⟨w.heap.size + 1, 0, none⟩ = some b0 ∧ wr.cell? ⟨w.heap.size + 1, 1, none⟩ = some b1 ∧ wr.cell? ⟨w.heap.size + 1, 2, none⟩ = some b2 ∧ wr.cell? ⟨w.heap.size + 1, 3, none⟩ = some b3 ∧ wr.cell? ⟨w.heap.size + 1, 4, none⟩ = some b4 :=
  ⟨box2a h 0, box2a h 1, box2a h 2, box2a h 3, box2a h 4, box2b h 0, box2b h 1, box2b h 2, box2b h 3, box2b h 4⟩
/-- A call that leaves the world alone, met a second time within drawn orders. -/
theorem calm_again {P : Program} {f : FuncId} {args : Array Value} {v : Value} (h : ∀ W : World, Calls P f args W fun e w' => e = .returned v ∧ w' = W) (w : World) (a n : Nat) :
    Calls P f args (w.drewN (a + n)) fun e w' => e = .returned v ∧ ∃ m, w' = w.drewN (a + m) := by
  refine (h _).mono ?_
  rintro e w' ⟨he, rfl⟩
  exact ⟨he, n, rfl⟩
theorem keepB {wr wx w1 : World} (h : Hid (Below wr.heap.size wr wx)) (hb : Below wx.heap.size wx w1) : Below wr.heap.size wr w1 := h.out.trans (hb.mono h.out.size)
theorem box2z {w wr : World} {o o' : Obj} (h : Below (w.heap.size + 2) ((w.alloc o).alloc o') wr) : w.heap.size + 2 ≤ wr.heap.size := by
  have := h.size; simp only [World.size_alloc] at this; omega
end Go.Proofs.YtoddlacfbeckiaaDoor
