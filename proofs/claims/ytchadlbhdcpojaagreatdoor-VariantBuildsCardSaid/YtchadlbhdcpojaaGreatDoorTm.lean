/- An item taken out of a value: plain; and out of a node. -/
import Derived.Test.YtchadlbhdcpojaaGreatDoorTg
namespace Go.Proofs.YtchadlbhdcpojaaGreatDoor
open Go.RowKit

theorem mk_eta (x : V) : V.mk x.kind x.int x.text x.items x.keys = x := by cases x; rfl
section
variable {W W' : World} {N g i : Nat} {t : TypeId} {pre post : List Value} {x : V} {vI vK v' : Value} {D : Nat → Prop}
end
end Go.Proofs.YtchadlbhdcpojaaGreatDoor
