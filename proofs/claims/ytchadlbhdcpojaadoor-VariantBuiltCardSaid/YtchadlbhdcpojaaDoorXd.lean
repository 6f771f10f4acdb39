/- What lies stays, blocks aside. -/
import Derived.Test.YtchadlbhdcpojaaDoorXc
import Derived.Deep.RegionHeld3
import Derived.Deep.DrawnRows
namespace Go.Proofs.YtchadlbhdcpojaaDoor
open Go.RowKit

theorem below_alloc {a b : World} {B : Nat} (h : Below B a b) (hB : B ≤ b.heap.size) (o : Obj) : Below B a (b.alloc o) := h.alloc hB o
theorem lies_drew {w : World} {x : V} {A K : Option Addr} {c d : Nat} (h : Lies w w.heap.size x A c K d) : Lies w.drew w.drew.heap.size x A c K d := lies_on h (Below.refl _ _).drew
end Go.Proofs.YtchadlbhdcpojaaDoor
