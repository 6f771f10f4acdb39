/- Reading a text whole: the contract. -/
import Derived.Test.YtchadlbhdcpojaaGreatDoorWz
import Derived.Test.YtchadlbhdcpojaaGreatDoorRg
import Derived.Test.YtchadlbhdcpojaaGreatDoorWf
import Derived.Test.YtchadlbhdcpojaaGreatDoorRk
namespace Go.Proofs.YtchadlbhdcpojaaGreatDoor
open Go.RowKit

theorem below_set {a b : World} {B : Nat} (h : Below B a b) (p : Addr) (v : Value) (hp : B ≤ p.block) : Below B a (b.setCell p v) := h.trans ⟨rfl, rfl, rfl, by simp [World.setCell], fun i hi => Below.heap_setCell b p v i (by omega)⟩
theorem below_put5 {a b : World} {B g : Nat} (h : Below B a b) (hg : B ≤ g) (v0 v1 v2 v3 v4 : Value) : Below B a (put5 b g 0 v0 v1 v2 v3 v4) :=
  below_set (below_set (below_set (below_set (below_set h _ _ hg) _ _ hg) _ _ hg) _ _ hg) _ _ hg
end Go.Proofs.YtchadlbhdcpojaaGreatDoor
/- The makers of values. -/
namespace Go.Proofs.YtchadlbhdcpojaaGreatDoor
open Go.RowKit

set_option maxHeartbeats 1000000 in
theorem refNull_any (w : World) :
    Calls Tryz.prog 10 #[] w fun e w' => e = .returned (.agg #[.int .i64 0, .int .i64 0, .string ⟨#[]⟩, .slice none 0 0, .slice none 0 0]) ∧ Below w.heap.size w w' := by
  go_enter Tryz.func10, Tryz.ntmps10
  go_wp2_with fail
  refine bodyPost_ret (v := .agg #[.int .i64 0, .int .i64 0, .string ⟨#[]⟩, .slice none 0 0, .slice none 0 0]) (by simp [results, Tryz.results10, go_sem]) rfl ?_
  exact ⟨rfl, (Below.refl _ _).alloc (Nat.le_refl _) _⟩
set_option maxHeartbeats 1000000 in
theorem refList_any (A : Option Addr) (n c : Nat) (w : World) :
    Calls Tryz.prog 13 #[.slice A n c] w fun e w' => e = .returned (.agg #[.int .i64 4, .int .i64 0, .string ⟨#[]⟩, .slice A n c, .slice none 0 0]) ∧ Below w.heap.size w w' := by
  go_enter Tryz.func13, Tryz.ntmps13
  go_wp2_with fail
  refine bodyPost_ret (v := .agg #[.int .i64 4, .int .i64 0, .string ⟨#[]⟩, .slice A n c, .slice none 0 0]) (by simp [results, Tryz.results13, go_sem]) rfl ?_
  exact ⟨rfl, (Below.refl _ _).alloc (Nat.le_refl _) _⟩
set_option maxHeartbeats 1000000 in
theorem refObject_any (K A : Option Addr) (m d n c : Nat) (w : World) :
    Calls Tryz.prog 15 #[.slice K m d, .slice A n c] w fun e w' => e = .returned (.agg #[.int .i64 5, .int .i64 0, .string ⟨#[]⟩, .slice A n c, .slice K m d]) ∧ Below w.heap.size w w' := by
  go_enter Tryz.func15, Tryz.ntmps15
  go_wp2_with fail
  refine bodyPost_ret (v := .agg #[.int .i64 5, .int .i64 0, .string ⟨#[]⟩, .slice A n c, .slice K m d]) (by simp [results, Tryz.results15, go_sem]) rfl ?_
  exact ⟨rfl, (Below.refl _ _).alloc (Nat.le_refl _) _⟩

theorem sz0 : (⟨#[]⟩ : ByteArray).size ≤ maxLen := by decide
/-- What lies in old blocks lies there still. -/
theorem lies_on {w w' : World} {x : V} {A K : Option Addr} {c d : Nat} (h : Lies w w.heap.size x A c K d) (hb : Below w.heap.size w w') : Lies w' w'.heap.size x A c K d := Lies.keep (bcell hb) hb.size _ h
theorem lies_alloc {w : World} {x : V} {A K : Option Addr} {c d : Nat} (h : Lies w w.heap.size x A c K d) (o : Obj) : Lies (w.alloc o) (w.alloc o).heap.size x A c K d := lies_on h ((Below.refl _ _).alloc (Nat.le_refl _) _)
theorem below_on {w a b : World} (h : Below w.heap.size w a) (hb : Below a.heap.size a b) : Below w.heap.size w b := h.trans (hb.mono h.size)
theorem below_al {w a : World} (h : Below w.heap.size w a) (o : Obj) : Below w.heap.size w (a.alloc o) := h.alloc h.size o
theorem Pow.on {w a : World} (h : Pow w) (hb : Below w.heap.size w a) : Pow a := h.below hb h.lt
end Go.Proofs.YtchadlbhdcpojaaGreatDoor
