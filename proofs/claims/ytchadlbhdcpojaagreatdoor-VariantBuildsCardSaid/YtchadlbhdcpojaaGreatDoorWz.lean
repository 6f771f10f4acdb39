/- Reading: a value. -/
import Derived.Test.YtchadlbhdcpojaaGreatDoorWu
import Derived.Recover
namespace Go.Proofs.YtchadlbhdcpojaaGreatDoor
open Go.RowKit

end Go.Proofs.YtchadlbhdcpojaaGreatDoor
/- Reading: values of whatever depth. -/
namespace Go.Proofs.YtchadlbhdcpojaaGreatDoor
open Go.RowKit

end Go.Proofs.YtchadlbhdcpojaaGreatDoor
