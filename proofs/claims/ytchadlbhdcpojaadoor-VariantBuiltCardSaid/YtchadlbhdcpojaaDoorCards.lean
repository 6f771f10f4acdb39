/-
  DERIVED. GIVEN WITH THE SEED: THE CARDS: each row of YtchadlbhdcpojaaDoorRows.lean that lists a variable, with what it lists TIED to the program's text (the seventh form; the later family's looks); each row that meets fmt, with fmt's text TOLD by the authors' own Lean function (tested against real Go, not proved from fmt's source: count such statements apart). THE CARD IS WHAT COUNTS. Prove the row's statement (the work); the ties are given (YtchadlbhdcpojaaDoorTie.lean); close each card by the builder's one call (the guide's Derived/Test/ToyasCard.lean, 'card_holds'). Laid BY PROGRAM, IN A SANDBOX (cutbox-door.mjs). By AI agents, Wed Nov 11 2026. No macro, syntax, notation, axiom, sorry.
-/
import Derived.Test.YtchadlbhdcpojaaDoorRows
import GoSem.ClaimSeven
namespace Go.Proofs.YtchadlbhdcpojaaDoor
namespace Rows

/-- THE TIED CARD OF 'cirruslaw02.VariantBuilt'. -/
def variantBuiltCard : Claim7 := { stood := { row := variantBuiltRow, standIns := [], harness := (true, "034db0aff43471b4b2cf31cf1350370d599af8b4f5b2941970f95eab04ac26ff"), looks := false }, kinds := [], alts := [], laidByText := true, laidKinds := [.data, .data, .data], laidTests := true, laidLooks := .later }
def VariantBuiltCardSaid : Prop := Claim7.holds Tryd.pinned (.plain (OpenSpec.ofChange variantBuiltSpec)) variantBuiltCard

/-- THE SECOND FORM's CARD OF 'cirruslaw02.VariantBuilt'. -/
def variantBuiltUptoCard : Claim7 := { stood := { row := variantBuiltUptoRow, standIns := [], harness := (true, "034db0aff43471b4b2cf31cf1350370d599af8b4f5b2941970f95eab04ac26ff"), looks := false }, kinds := [], alts := [], laidByText := true, laidKinds := [.data, .data, .data], laidTests := true, laidLooks := .later }
def VariantBuiltUptoCardSaid : Prop := Claim7.holds Tryd.pinned (.plain (OpenSpec.upto variantBuiltSpec)) variantBuiltUptoCard
end Rows
end Go.Proofs.YtchadlbhdcpojaaDoor
