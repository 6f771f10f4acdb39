/- Reading: where a key belongs. -/
import Derived.Test.YtchadlbhdcpojaaGreatDoorWr
import Derived.Shelf.Spec.SearchS
import Derived.Test.YtchadlbhdcpojaaGreatDoorWq
import Derived.Deep.RegionHeld3
import Derived.Deep.DrawnRows
namespace Go.Proofs.YtchadlbhdcpojaaGreatDoor
open Go.RowKit

set_option maxHeartbeats 1000000 in
theorem nan_cmp (x : ByteArray) (w : World) : Calls Tryz.prog 72 #[.string x] w fun e w' => e = .returned (.bool false) ∧ w' = w := by
  go_enter Tryz.func72, Tryz.ntmps72
  go_wp2
  go_ret
  exact ⟨by simp, rfl⟩
set_option maxHeartbeats 1000000 in
theorem nan_slices (x : ByteArray) (w : World) : Calls Tryz.prog 57 #[.string x] w fun e w' => e = .returned (.bool false) ∧ w' = w := by
  go_enter Tryz.func57, Tryz.ntmps57
  go_wp2
  go_ret
  exact ⟨by simp, rfl⟩
set_option maxHeartbeats 1000000 in
theorem less_string (x y : ByteArray) (w : World) : Calls Tryz.prog 56 #[.string x, .string y] w fun e w' => e = .returned (.bool (Op.bytesLess x.toList y.toList)) ∧ w' = w := by
  go_enter Tryz.func56, Tryz.ntmps56
  go_wp2_with (go_at_call 72; refine (nan_cmp _ _).mono ?_; rintro e w' ⟨rfl, rfl⟩)
  go_ret
  exact ⟨rfl, rfl⟩

set_option maxHeartbeats 1000000 in
set_option maxRecDepth 1000000 in
theorem search_nil (a : Option Addr) (c : Nat) (x : ByteArray) (w : World) : Calls Tryz.prog 42 #[.slice a 0 c, .string x] w fun e w' => e = .returned (.tuple #[.int .i64 0, .bool false]) ∧ ∃ q, w' = w.drewN q := by
  have mixed : Tryz.prog.follows Departure.mixedOrders = true := by kernel_rfl
  go_enter Tryz.func42, Tryz.ntmps42
  go_wp2
  go_loop [7, 8] (fun s7 s8 => s7 = .int .i64 0 ∧ s8 = .int .i64 0) (fun _ _ => 0)
  case atStart => exact ⟨rfl, rfl⟩
  case round =>
    obtain ⟨rfl, rfl⟩ := hrel
    go_wp2
    go_ret2
    exact ⟨rfl, 0, rfl⟩
end Go.Proofs.YtchadlbhdcpojaaGreatDoor
/- Reading: an object: how far it is read. -/
namespace Go.Proofs.YtchadlbhdcpojaaGreatDoor
open Go.RowKit

end Go.Proofs.YtchadlbhdcpojaaGreatDoor
/- Reading: an object, walked. -/
namespace Go.Proofs.YtchadlbhdcpojaaGreatDoor
open Go.RowKit

section
variable {w W : World} {g : Nat} {d : Int} {st : List ByteArray × List V} {n : Nat} {rowK rowI : Value} {css : List (List Value)}
end
attribute [local go_sem ↓] Go.wp_at_zero Go.wp_at_succ
end Go.Proofs.YtchadlbhdcpojaaGreatDoor
/- Reading: an object, whole. -/
namespace Go.Proofs.YtchadlbhdcpojaaGreatDoor
open Go.RowKit

theorem keys_from {w : World} {b : Nat} : ∀ {keys : List ByteArray} {o : Nat}, (∀ k ∈ keys, k.size ≤ maxLen) → (∀ (j : Nat) (v : Value), (keys.map Value.string)[j]? = some v → w.cell? ⟨b, o + j, none⟩ = some v) → StrsFrom w keys b o
  | [], _, _, _ => trivial
  | k :: r, o, hk, hc => ⟨hc 0 _ rfl, hk k (by simp), keys_from (fun x hx => hk x (by simp [hx])) fun j v hj => by
    have := hc (j + 1) v (by simpa using hj)
    rw [show o + 1 + j = o + (j + 1) by omega]; exact this⟩
end Go.Proofs.YtchadlbhdcpojaaGreatDoor
