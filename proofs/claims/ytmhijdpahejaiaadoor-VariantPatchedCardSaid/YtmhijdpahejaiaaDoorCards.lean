/-
  DERIVED. GIVEN WITH THE SEED: THE CARDS: each row of YtmhijdpahejaiaaDoorRows.lean that lists a variable, with what it lists TIED to the program's text (the seventh form; the later family's looks); each row that meets fmt, with fmt's text TOLD by the authors' own Lean function (tested against real Go, not proved from fmt's source: count such statements apart). THE CARD IS WHAT COUNTS. Prove the row's statement (the work); the ties are given (YtmhijdpahejaiaaDoorTie.lean); close each card by the builder's one call (the guide's Derived/Test/ToyasCard.lean, 'card_holds'). Laid BY PROGRAM, IN A SANDBOX (cutbox-door.mjs). By AI agents, Wed Nov 11 2026. No macro, syntax, notation, axiom, sorry.
-/
import Derived.Test.YtmhijdpahejaiaaDoorRows
import GoSem.ClaimSeven
namespace Go.Proofs.YtmhijdpahejaiaaDoor
namespace Rows

/-- THE TIED CARD OF 'cirruslaw02.VariantGets'. -/
def variantGetsCard : Claim7 := { stood := { row := variantGetsRow, standIns := [], harness := (true, "2a48828e9dd6c63fb6ed4545f248b6d41ff92889986dbd60c8058030a8979a61"), looks := false }, kinds := [], alts := [], laidByText := true, laidKinds := [.data, .data, .data], laidTests := true, laidLooks := .later }
def VariantGetsCardSaid : Prop := Claim7.holds Tryd.pinned (.plain (OpenSpec.ofChange variantGetsSpec)) variantGetsCard

/-- THE TIED CARD OF 'cirruslaw02.VariantPuts'. -/
def variantPutsCard : Claim7 := { stood := { row := variantPutsRow, standIns := [], harness := (true, "2a48828e9dd6c63fb6ed4545f248b6d41ff92889986dbd60c8058030a8979a61"), looks := false }, kinds := [], alts := [], laidByText := true, laidKinds := [.data, .data, .data], laidTests := true, laidLooks := .later }
def VariantPutsCardSaid : Prop := Claim7.holds Tryd.pinned (.plain (OpenSpec.ofChange variantPutsSpec)) variantPutsCard

/-- THE TIED CARD OF 'cirruslaw02.VariantLeaves'. -/
def variantLeavesCard : Claim7 := { stood := { row := variantLeavesRow, standIns := [], harness := (true, "2a48828e9dd6c63fb6ed4545f248b6d41ff92889986dbd60c8058030a8979a61"), looks := false }, kinds := [], alts := [], laidByText := true, laidKinds := [.data, .data, .data], laidTests := true, laidLooks := .later }
def VariantLeavesCardSaid : Prop := Claim7.holds Tryd.pinned (.plain (OpenSpec.ofChange variantLeavesSpec)) variantLeavesCard

/-- THE TIED CARD OF 'cirruslaw02.VariantPut'. -/
def variantPutCard : Claim7 := { stood := { row := variantPutRow, standIns := [], harness := (true, "2a48828e9dd6c63fb6ed4545f248b6d41ff92889986dbd60c8058030a8979a61"), looks := false }, kinds := [], alts := [], laidByText := true, laidKinds := [.data, .data, .data], laidTests := true, laidLooks := .later }
def VariantPutCardSaid : Prop := Claim7.holds Tryd.pinned (.plain (OpenSpec.ofChange variantPutSpec)) variantPutCard

/-- THE TIED CARD OF 'cirruslaw02.VariantBuilt'. -/
def variantBuiltCard : Claim7 := { stood := { row := variantBuiltRow, standIns := [], harness := (true, "2a48828e9dd6c63fb6ed4545f248b6d41ff92889986dbd60c8058030a8979a61"), looks := false }, kinds := [], alts := [], laidByText := true, laidKinds := [.data, .data, .data], laidTests := true, laidLooks := .later }
def VariantBuiltCardSaid : Prop := Claim7.holds Tryd.pinned (.plain (OpenSpec.ofChange variantBuiltSpec)) variantBuiltCard

/-- THE TIED CARD OF 'cirruslaw02.VariantPatched'. -/
def variantPatchedCard : Claim7 := { stood := { row := variantPatchedRow, standIns := [], harness := (true, "2a48828e9dd6c63fb6ed4545f248b6d41ff92889986dbd60c8058030a8979a61"), looks := false }, kinds := [], alts := [], laidByText := true, laidKinds := [.data, .data, .data], laidTests := true, laidLooks := .later }
def VariantPatchedCardSaid : Prop := Claim7.holds Tryd.pinned (.plain (OpenSpec.ofChange variantPatchedSpec)) variantPatchedCard

/-- THE TIED CARD OF 'cirruslaw02.VariantRemoved'. -/
def variantRemovedCard : Claim7 := { stood := { row := variantRemovedRow, standIns := [], harness := (true, "2a48828e9dd6c63fb6ed4545f248b6d41ff92889986dbd60c8058030a8979a61"), looks := false }, kinds := [], alts := [], laidByText := true, laidKinds := [.data, .data, .data], laidTests := true, laidLooks := .later }
def VariantRemovedCardSaid : Prop := Claim7.holds Tryd.pinned (.plain (OpenSpec.ofChange variantRemovedSpec)) variantRemovedCard

/-- THE SECOND FORM's CARD OF 'cirruslaw02.VariantGets'. -/
def variantGetsUptoCard : Claim7 := { stood := { row := variantGetsUptoRow, standIns := [], harness := (true, "2a48828e9dd6c63fb6ed4545f248b6d41ff92889986dbd60c8058030a8979a61"), looks := false }, kinds := [], alts := [], laidByText := true, laidKinds := [.data, .data, .data], laidTests := true, laidLooks := .later }
def VariantGetsUptoCardSaid : Prop := Claim7.holds Tryd.pinned (.plain (OpenSpec.upto variantGetsSpec)) variantGetsUptoCard

/-- THE SECOND FORM's CARD OF 'cirruslaw02.VariantPuts'. -/
def variantPutsUptoCard : Claim7 := { stood := { row := variantPutsUptoRow, standIns := [], harness := (true, "2a48828e9dd6c63fb6ed4545f248b6d41ff92889986dbd60c8058030a8979a61"), looks := false }, kinds := [], alts := [], laidByText := true, laidKinds := [.data, .data, .data], laidTests := true, laidLooks := .later }
def VariantPutsUptoCardSaid : Prop := Claim7.holds Tryd.pinned (.plain (OpenSpec.upto variantPutsSpec)) variantPutsUptoCard

/-- THE SECOND FORM's CARD OF 'cirruslaw02.VariantLeaves'. -/
def variantLeavesUptoCard : Claim7 := { stood := { row := variantLeavesUptoRow, standIns := [], harness := (true, "2a48828e9dd6c63fb6ed4545f248b6d41ff92889986dbd60c8058030a8979a61"), looks := false }, kinds := [], alts := [], laidByText := true, laidKinds := [.data, .data, .data], laidTests := true, laidLooks := .later }
def VariantLeavesUptoCardSaid : Prop := Claim7.holds Tryd.pinned (.plain (OpenSpec.upto variantLeavesSpec)) variantLeavesUptoCard

/-- THE SECOND FORM's CARD OF 'cirruslaw02.VariantPut'. -/
def variantPutUptoCard : Claim7 := { stood := { row := variantPutUptoRow, standIns := [], harness := (true, "2a48828e9dd6c63fb6ed4545f248b6d41ff92889986dbd60c8058030a8979a61"), looks := false }, kinds := [], alts := [], laidByText := true, laidKinds := [.data, .data, .data], laidTests := true, laidLooks := .later }
def VariantPutUptoCardSaid : Prop := Claim7.holds Tryd.pinned (.plain (OpenSpec.upto variantPutSpec)) variantPutUptoCard

/-- THE SECOND FORM's CARD OF 'cirruslaw02.VariantBuilt'. -/
def variantBuiltUptoCard : Claim7 := { stood := { row := variantBuiltUptoRow, standIns := [], harness := (true, "2a48828e9dd6c63fb6ed4545f248b6d41ff92889986dbd60c8058030a8979a61"), looks := false }, kinds := [], alts := [], laidByText := true, laidKinds := [.data, .data, .data], laidTests := true, laidLooks := .later }
def VariantBuiltUptoCardSaid : Prop := Claim7.holds Tryd.pinned (.plain (OpenSpec.upto variantBuiltSpec)) variantBuiltUptoCard

/-- THE SECOND FORM's CARD OF 'cirruslaw02.VariantPatched'. -/
def variantPatchedUptoCard : Claim7 := { stood := { row := variantPatchedUptoRow, standIns := [], harness := (true, "2a48828e9dd6c63fb6ed4545f248b6d41ff92889986dbd60c8058030a8979a61"), looks := false }, kinds := [], alts := [], laidByText := true, laidKinds := [.data, .data, .data], laidTests := true, laidLooks := .later }
def VariantPatchedUptoCardSaid : Prop := Claim7.holds Tryd.pinned (.plain (OpenSpec.upto variantPatchedSpec)) variantPatchedUptoCard

/-- THE SECOND FORM's CARD OF 'cirruslaw02.VariantRemoved'. -/
def variantRemovedUptoCard : Claim7 := { stood := { row := variantRemovedUptoRow, standIns := [], harness := (true, "2a48828e9dd6c63fb6ed4545f248b6d41ff92889986dbd60c8058030a8979a61"), looks := false }, kinds := [], alts := [], laidByText := true, laidKinds := [.data, .data, .data], laidTests := true, laidLooks := .later }
def VariantRemovedUptoCardSaid : Prop := Claim7.holds Tryd.pinned (.plain (OpenSpec.upto variantRemovedSpec)) variantRemovedUptoCard
end Rows
end Go.Proofs.YtmhijdpahejaiaaDoor
