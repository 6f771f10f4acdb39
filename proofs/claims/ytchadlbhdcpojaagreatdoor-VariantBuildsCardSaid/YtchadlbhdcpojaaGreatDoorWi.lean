/- Reading: the signs. -/
import Derived.Test.YtchadlbhdcpojaaGreatDoorPa
import Derived.Test.YtchadlbhdcpojaaGreatDoorMa
import Derived.Test.YtchadlbhdcpojaaGreatDoorRa
import Derived.Deep.RegionHeld3
import Derived.Deep.Light
import Derived.Test.YtchadlbhdcpojaaGreatDoorShelf
namespace Go.Proofs.YtchadlbhdcpojaaGreatDoor
open Go.RowKit

end Go.Proofs.YtchadlbhdcpojaaGreatDoor
/- Reading: words. -/
namespace Go.Proofs.YtchadlbhdcpojaaGreatDoor
open Go.RowKit

def cellsOf (x : V) (A : Option Addr) (c : Nat) (K : Option Addr) (d : Nat) : Value := .agg #[.int .i64 x.kind, .int .i64 x.int, .string x.text, .slice A x.items.length c, .slice K x.keys.length d]
theorem lies_leaf (P : Nat → Prop) (w : World) (k i : Int) (t : ByteArray) (ht : t.size ≤ maxLen) : LiesIn P w (leaf k i t) none 0 none 0 := by
  unfold maxLen at ht
  simp [leaf, LiesIn, StrsIn, maxLen, ht]
theorem grow_refl (w : World) (r : Option Nat) : w.grownBy w r := ⟨rfl, rfl, rfl, Nat.le_refl _, fun _ _ _ => rfl⟩
end Go.Proofs.YtchadlbhdcpojaaGreatDoor
