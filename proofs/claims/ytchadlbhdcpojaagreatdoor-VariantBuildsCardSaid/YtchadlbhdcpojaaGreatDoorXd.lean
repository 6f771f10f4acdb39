/- What lies stays, blocks aside. -/
import Derived.Test.YtchadlbhdcpojaaGreatDoorXc
import Derived.Deep.RegionHeld3
import Derived.Deep.DrawnRows
namespace Go.Proofs.YtchadlbhdcpojaaGreatDoor
open Go.RowKit

theorem lies_drew {w : World} {x : V} {A K : Option Addr} {c d : Nat} (h : Lies w w.heap.size x A c K d) : Lies w.drew w.drew.heap.size x A c K d := lies_on h (Below.refl _ _).drew
end Go.Proofs.YtchadlbhdcpojaaGreatDoor
