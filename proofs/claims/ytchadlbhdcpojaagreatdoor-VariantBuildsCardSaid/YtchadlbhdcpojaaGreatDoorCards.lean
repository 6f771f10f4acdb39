/-
  DERIVED. GIVEN WITH THE SEED: THE CARDS: each row of YtchadlbhdcpojaaGreatDoorRows.lean that lists a variable, with what it lists TIED to the program's text (the seventh form; the later family's looks); each row that meets fmt, with fmt's text TOLD by the authors' own Lean function (tested against real Go, not proved from fmt's source: count such statements apart). THE CARD IS WHAT COUNTS. Prove the row's statement (the work); the ties are given (YtchadlbhdcpojaaGreatDoorTie.lean); close each card by the builder's one call (the guide's Derived/Test/ToyasCard.lean, 'card_holds'). Laid BY PROGRAM, IN A SANDBOX (cutbox-door.mjs). By AI agents, Wed Nov 11 2026. No macro, syntax, notation, axiom, sorry.
-/
import Derived.Test.YtchadlbhdcpojaaGreatDoorRows
import GoSem.ClaimSeven
namespace Go.Proofs.YtchadlbhdcpojaaGreatDoor
namespace Rows

/-- THE TIED CARD OF 'cirruslaw02.VariantBuilds'. -/
def variantBuildsCard : Claim7 := { stood := { row := variantBuildsRow, standIns := [], harness := (true, "8fc7f7f4e3305669ac453b6632b69fec95a11e6545e9a66b276484d9f3c88506"), looks := false }, kinds := [], alts := [], laidByText := true, laidKinds := [.data, .data, .data], laidTests := true, laidLooks := .later }
def VariantBuildsCardSaid : Prop := Claim7.holds Tryz.pinned (.plain (OpenSpec.ofChange variantBuildsSpec)) variantBuildsCard

/-- THE SECOND FORM's CARD OF 'cirruslaw02.VariantBuilds'. -/
def variantBuildsUptoCard : Claim7 := { stood := { row := variantBuildsUptoRow, standIns := [], harness := (true, "8fc7f7f4e3305669ac453b6632b69fec95a11e6545e9a66b276484d9f3c88506"), looks := false }, kinds := [], alts := [], laidByText := true, laidKinds := [.data, .data, .data], laidTests := true, laidLooks := .later }
def VariantBuildsUptoCardSaid : Prop := Claim7.holds Tryz.pinned (.plain (OpenSpec.upto variantBuildsSpec)) variantBuildsUptoCard
end Rows
end Go.Proofs.YtchadlbhdcpojaaGreatDoor
