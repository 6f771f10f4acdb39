/- Reading: numbers. -/
import Derived.Test.YtchadlbhdcpojaaGreatDoorWi
import Derived.Test.YtchadlbhdcpojaaGreatDoorWa
import Derived.Test.YtchadlbhdcpojaaGreatDoorRg
namespace Go.Proofs.YtchadlbhdcpojaaGreatDoor
open Go.RowKit

end Go.Proofs.YtchadlbhdcpojaaGreatDoor
/- Reading: texts in quotes. -/
namespace Go.Proofs.YtchadlbhdcpojaaGreatDoor
open Go.RowKit

/-- A row of bytes of the call's own. -/
def Own (B : Nat) (v : Value) (l : List UInt8) (w : World) : Prop := w.ownsRow B 5 1 v l.length (Lib.byteCells l)
theorem Own.nil (B : Nat) (w : World) : Own B (.slice none 0 0) [] w := World.ownsRow_nil _ _ _ _
theorem Own.form {B : Nat} {v : Value} {l : List UInt8} {w : World} (h : Own B v l w) : ∃ A c, v = .slice A l.length c := by
  obtain ⟨hl, h | ⟨g, cap, cur, hv, hB, hc, hn, hcap, hcs, ht⟩⟩ := h
  · obtain ⟨rfl, h0⟩ := h
    exact ⟨none, 0, by rw [h0]⟩
  · exact ⟨_, _, hv⟩

theorem Own.push {B : Nat} {v : Value} {acc : List UInt8} {x : UInt8} {w : World} (h : w.ownsRow B 5 1 v (acc.length + 1) (Lib.byteCells acc ++ [.int .u8 x.toNat])) : Own B v (acc ++ [x]) w := by
  simpa [Own, Lib.byteCells] using h
end Go.Proofs.YtchadlbhdcpojaaGreatDoor
/- Reading: a series. -/
namespace Go.Proofs.YtchadlbhdcpojaaGreatDoor
open Go.RowKit

end Go.Proofs.YtchadlbhdcpojaaGreatDoor
