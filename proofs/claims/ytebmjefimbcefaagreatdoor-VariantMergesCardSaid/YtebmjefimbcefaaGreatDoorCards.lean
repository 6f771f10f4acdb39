/-
  DERIVED. GIVEN WITH THE SEED: THE CARDS: each row of YtebmjefimbcefaaGreatDoorRows.lean that lists a variable, with what it lists TIED to the program's text (the seventh form; the later family's looks); each row that meets fmt, with fmt's text TOLD by the authors' own Lean function (tested against real Go, not proved from fmt's source: count such statements apart). THE CARD IS WHAT COUNTS. Prove the row's statement (the work); the ties are given (YtebmjefimbcefaaGreatDoorTie.lean); close each card by the builder's one call (the guide's Derived/Test/ToyasCard.lean, 'card_holds'). Laid BY PROGRAM, IN A SANDBOX (cutbox-door.mjs). By AI agents, Wed Nov 11 2026. No macro, syntax, notation, axiom, sorry.
-/
import Derived.Test.YtebmjefimbcefaaGreatDoorRows
import GoSem.ClaimSeven
namespace Go.Proofs.YtebmjefimbcefaaGreatDoor
namespace Rows

/-- THE TIED CARD OF 'cirruslaw02.VariantBuilds'. -/
def variantBuildsCard : Claim7 := { stood := { row := variantBuildsRow, standIns := [], harness := (true, "3c50932a49624c7b2614f30754b04b990317333bac5cce8a0b768c0bd0846305"), looks := false }, kinds := [], alts := [], laidByText := true, laidKinds := [.data, .data, .data], laidTests := true, laidLooks := .later }
def VariantBuildsCardSaid : Prop := Claim7.holds Tryz.pinned (.plain (OpenSpec.ofChange variantBuildsSpec)) variantBuildsCard

/-- THE TIED CARD OF 'cirruslaw02.VariantMerges'. -/
def variantMergesCard : Claim7 := { stood := { row := variantMergesRow, standIns := [], harness := (true, "3c50932a49624c7b2614f30754b04b990317333bac5cce8a0b768c0bd0846305"), looks := false }, kinds := [], alts := [], laidByText := true, laidKinds := [.data, .data, .data], laidTests := true, laidLooks := .later }
def VariantMergesCardSaid : Prop := Claim7.holds Tryz.pinned (.plain (OpenSpec.ofChange variantMergesSpec)) variantMergesCard

/-- THE SECOND FORM's CARD OF 'cirruslaw02.VariantBuilds'. -/
def variantBuildsUptoCard : Claim7 := { stood := { row := variantBuildsUptoRow, standIns := [], harness := (true, "3c50932a49624c7b2614f30754b04b990317333bac5cce8a0b768c0bd0846305"), looks := false }, kinds := [], alts := [], laidByText := true, laidKinds := [.data, .data, .data], laidTests := true, laidLooks := .later }
def VariantBuildsUptoCardSaid : Prop := Claim7.holds Tryz.pinned (.plain (OpenSpec.upto variantBuildsSpec)) variantBuildsUptoCard

/-- THE SECOND FORM's CARD OF 'cirruslaw02.VariantMerges'. -/
def variantMergesUptoCard : Claim7 := { stood := { row := variantMergesUptoRow, standIns := [], harness := (true, "3c50932a49624c7b2614f30754b04b990317333bac5cce8a0b768c0bd0846305"), looks := false }, kinds := [], alts := [], laidByText := true, laidKinds := [.data, .data, .data], laidTests := true, laidLooks := .later }
def VariantMergesUptoCardSaid : Prop := Claim7.holds Tryz.pinned (.plain (OpenSpec.upto variantMergesSpec)) variantMergesUptoCard
end Rows
end Go.Proofs.YtebmjefimbcefaaGreatDoor
