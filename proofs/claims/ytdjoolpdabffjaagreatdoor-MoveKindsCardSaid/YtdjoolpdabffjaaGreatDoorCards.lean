/-
  DERIVED. GIVEN WITH THE SEED: THE CARDS: each row of YtdjoolpdabffjaaGreatDoorRows.lean that lists a variable, with what it lists TIED to the program's text (the seventh form; the later family's looks); each row that meets fmt, with fmt's text TOLD by the authors' own Lean function (tested against real Go, not proved from fmt's source: count such statements apart). THE CARD IS WHAT COUNTS. Prove the row's statement (the work); the ties are given (YtdjoolpdabffjaaGreatDoorTie.lean); close each card by the builder's one call (the guide's Derived/Test/ToyasCard.lean, 'card_holds'). Laid BY PROGRAM, IN A SANDBOX (cutbox-door.mjs). By AI agents, Wed Nov 11 2026. No macro, syntax, notation, axiom, sorry.
-/
import Derived.Test.YtdjoolpdabffjaaGreatDoorRows
import GoSem.ClaimSeven
namespace Go.Proofs.YtdjoolpdabffjaaGreatDoor
namespace Rows

/-- THE TIED CARD OF 'catscradlelaw03.MoveKinds'. -/
def moveKindsCard : Claim7 := { stood := { row := moveKindsRow, standIns := [], harness := (true, "03322f055edcf53265d7c74d11a21ffd4e6b0cce6f48eff74052adb1a4ccd874"), looks := true }, kinds := [], alts := [], laidByText := true, laidKinds := [.data, .data, .data, .data], laidTests := true, laidLooks := .later }
def MoveKindsCardSaid : Prop := Claim7.holds Tryz.pinned (.plain (OpenSpec.ofChange moveKindsSpec)) moveKindsCard

/-- THE TIED CARD OF 'catscradlelaw03.MoveBares'. -/
def moveBaresCard : Claim7 := { stood := { row := moveBaresRow, standIns := [], harness := (true, "03322f055edcf53265d7c74d11a21ffd4e6b0cce6f48eff74052adb1a4ccd874"), looks := true }, kinds := [], alts := [], laidByText := true, laidKinds := [.data, .data, .data, .data], laidTests := true, laidLooks := .later }
def MoveBaresCardSaid : Prop := Claim7.holds Tryz.pinned (.plain (OpenSpec.ofChange moveBaresSpec)) moveBaresCard

/-- THE TIED CARD OF 'catscradlelaw03.MovePrints'. -/
def movePrintsCard : Claim7 := { stood := { row := movePrintsRow, standIns := [], harness := (true, "03322f055edcf53265d7c74d11a21ffd4e6b0cce6f48eff74052adb1a4ccd874"), looks := true }, kinds := [], alts := [], laidByText := true, laidKinds := [.data, .data, .data, .data, .sentinel, .sentinel, .data, .pinned], laidTests := true, laidLooks := .later }
def MovePrintsCardSaid : Prop := Claim7.holds Tryz.pinned (.plain (OpenSpec.ofChange movePrintsSpec)) movePrintsCard

/-- THE SECOND FORM's CARD OF 'catscradlelaw03.MoveKinds'. -/
def moveKindsUptoCard : Claim7 := { stood := { row := moveKindsUptoRow, standIns := [], harness := (true, "03322f055edcf53265d7c74d11a21ffd4e6b0cce6f48eff74052adb1a4ccd874"), looks := true }, kinds := [], alts := [], laidByText := true, laidKinds := [.data, .data, .data, .data], laidTests := true, laidLooks := .later }
def MoveKindsUptoCardSaid : Prop := Claim7.holds Tryz.pinned (.plain (OpenSpec.upto moveKindsSpec)) moveKindsUptoCard

/-- THE SECOND FORM's CARD OF 'catscradlelaw03.MoveBares'. -/
def moveBaresUptoCard : Claim7 := { stood := { row := moveBaresUptoRow, standIns := [], harness := (true, "03322f055edcf53265d7c74d11a21ffd4e6b0cce6f48eff74052adb1a4ccd874"), looks := true }, kinds := [], alts := [], laidByText := true, laidKinds := [.data, .data, .data, .data], laidTests := true, laidLooks := .later }
def MoveBaresUptoCardSaid : Prop := Claim7.holds Tryz.pinned (.plain (OpenSpec.upto moveBaresSpec)) moveBaresUptoCard

/-- THE SECOND FORM's CARD OF 'catscradlelaw03.MovePrints'. -/
def movePrintsUptoCard : Claim7 := { stood := { row := movePrintsUptoRow, standIns := [], harness := (true, "03322f055edcf53265d7c74d11a21ffd4e6b0cce6f48eff74052adb1a4ccd874"), looks := true }, kinds := [], alts := [], laidByText := true, laidKinds := [.data, .data, .data, .data, .sentinel, .sentinel, .data, .pinned], laidTests := true, laidLooks := .later }
def MovePrintsUptoCardSaid : Prop := Claim7.holds Tryz.pinned (.plain (OpenSpec.upto movePrintsSpec)) movePrintsUptoCard
end Rows
end Go.Proofs.YtdjoolpdabffjaaGreatDoor
