/-
  DERIVED. GIVEN WITH THE SEED: THE CARDS: each row of YtjobnldepblciaaDoorRows.lean that lists a variable, with what it lists TIED to the program's text (the seventh form; the later family's looks); each row that meets fmt, with fmt's text TOLD by the authors' own Lean function (tested against real Go, not proved from fmt's source: count such statements apart). THE CARD IS WHAT COUNTS. Prove the row's statement (the work); the ties are given (YtjobnldepblciaaDoorTie.lean); close each card by the builder's one call (the guide's Derived/Test/ToyasCard.lean, 'card_holds'). Laid BY PROGRAM, IN A SANDBOX (cutbox-door.mjs). By AI agents, Wed Nov 11 2026. No macro, syntax, notation, axiom, sorry.
-/
import Derived.Test.YtjobnldepblciaaDoorRows
import GoSem.ClaimSeven
namespace Go.Proofs.YtjobnldepblciaaDoor
namespace Rows

/-- THE TIED CARD OF 'catscradlelaw02.CodeChecks'. -/
def codeChecksCard : Claim7 := { stood := { row := codeChecksRow, standIns := [], harness := (true, "0219669e4b6d2bd7a814d34abe922cf168d6a4513d2fd5b48f6302e3a34c2cf2"), looks := false }, kinds := [], alts := [], laidByText := true, laidKinds := [.data, .data, .data], laidTests := true, laidLooks := .later }
def CodeChecksCardSaid : Prop := Claim7.holds Tryd.pinned (.plain (OpenSpec.ofChange codeChecksSpec)) codeChecksCard

/-- THE TIED CARD OF 'catscradlelaw02.CodeErrors'. -/
def codeErrorsCard : Claim7 := { stood := { row := codeErrorsRow, standIns := [], harness := (true, "0219669e4b6d2bd7a814d34abe922cf168d6a4513d2fd5b48f6302e3a34c2cf2"), looks := false }, kinds := [], alts := [], laidByText := true, laidKinds := [.data, .data, .data], laidTests := true, laidLooks := .later }
def CodeErrorsCardSaid : Prop := Claim7.holds Tryd.pinned (.plain (OpenSpec.ofChange codeErrorsSpec)) codeErrorsCard

/-- THE TIED CARD OF 'catscradlelaw02.CodeFaces'. -/
def codeFacesCard : Claim7 := { stood := { row := codeFacesRow, standIns := [], harness := (true, "0219669e4b6d2bd7a814d34abe922cf168d6a4513d2fd5b48f6302e3a34c2cf2"), looks := false }, kinds := [], alts := [], laidByText := true, laidKinds := [.data, .data, .data], laidTests := true, laidLooks := .later }
def CodeFacesCardSaid : Prop := Claim7.holds Tryd.pinned (.plain (OpenSpec.ofChange codeFacesSpec)) codeFacesCard

/-- THE TIED CARD OF 'catscradlelaw02.CodeTurns'. -/
def codeTurnsCard : Claim7 := { stood := { row := codeTurnsRow, standIns := [], harness := (true, "0219669e4b6d2bd7a814d34abe922cf168d6a4513d2fd5b48f6302e3a34c2cf2"), looks := false }, kinds := [], alts := [], laidByText := true, laidKinds := [.data, .data, .data], laidTests := true, laidLooks := .later }
def CodeTurnsCardSaid : Prop := Claim7.holds Tryd.pinned (.plain (OpenSpec.ofChange codeTurnsSpec)) codeTurnsCard

/-- THE TIED CARD OF 'catscradlelaw02.CodeFingers'. -/
def codeFingersCard : Claim7 := { stood := { row := codeFingersRow, standIns := [], harness := (true, "0219669e4b6d2bd7a814d34abe922cf168d6a4513d2fd5b48f6302e3a34c2cf2"), looks := false }, kinds := [], alts := [], laidByText := true, laidKinds := [.data, .data, .data], laidTests := true, laidLooks := .later }
def CodeFingersCardSaid : Prop := Claim7.holds Tryd.pinned (.plain (OpenSpec.ofChange codeFingersSpec)) codeFingersCard

/-- THE TIED CARD OF 'catscradlelaw02.CodeCircles'. -/
def codeCirclesCard : Claim7 := { stood := { row := codeCirclesRow, standIns := [], harness := (true, "0219669e4b6d2bd7a814d34abe922cf168d6a4513d2fd5b48f6302e3a34c2cf2"), looks := false }, kinds := [], alts := [], laidByText := true, laidKinds := [.data, .data, .data], laidTests := true, laidLooks := .later }
def CodeCirclesCardSaid : Prop := Claim7.holds Tryd.pinned (.plain (OpenSpec.ofChange codeCirclesSpec)) codeCirclesCard

/-- THE SECOND FORM's CARD OF 'catscradlelaw02.CodeChecks'. -/
def codeChecksUptoCard : Claim7 := { stood := { row := codeChecksUptoRow, standIns := [], harness := (true, "0219669e4b6d2bd7a814d34abe922cf168d6a4513d2fd5b48f6302e3a34c2cf2"), looks := false }, kinds := [], alts := [], laidByText := true, laidKinds := [.data, .data, .data], laidTests := true, laidLooks := .later }
def CodeChecksUptoCardSaid : Prop := Claim7.holds Tryd.pinned (.plain (OpenSpec.upto codeChecksSpec)) codeChecksUptoCard

/-- THE SECOND FORM's CARD OF 'catscradlelaw02.CodeErrors'. -/
def codeErrorsUptoCard : Claim7 := { stood := { row := codeErrorsUptoRow, standIns := [], harness := (true, "0219669e4b6d2bd7a814d34abe922cf168d6a4513d2fd5b48f6302e3a34c2cf2"), looks := false }, kinds := [], alts := [], laidByText := true, laidKinds := [.data, .data, .data], laidTests := true, laidLooks := .later }
def CodeErrorsUptoCardSaid : Prop := Claim7.holds Tryd.pinned (.plain (OpenSpec.upto codeErrorsSpec)) codeErrorsUptoCard

/-- THE SECOND FORM's CARD OF 'catscradlelaw02.CodeFaces'. -/
def codeFacesUptoCard : Claim7 := { stood := { row := codeFacesUptoRow, standIns := [], harness := (true, "0219669e4b6d2bd7a814d34abe922cf168d6a4513d2fd5b48f6302e3a34c2cf2"), looks := false }, kinds := [], alts := [], laidByText := true, laidKinds := [.data, .data, .data], laidTests := true, laidLooks := .later }
def CodeFacesUptoCardSaid : Prop := Claim7.holds Tryd.pinned (.plain (OpenSpec.upto codeFacesSpec)) codeFacesUptoCard

/-- THE SECOND FORM's CARD OF 'catscradlelaw02.CodeTurns'. -/
def codeTurnsUptoCard : Claim7 := { stood := { row := codeTurnsUptoRow, standIns := [], harness := (true, "0219669e4b6d2bd7a814d34abe922cf168d6a4513d2fd5b48f6302e3a34c2cf2"), looks := false }, kinds := [], alts := [], laidByText := true, laidKinds := [.data, .data, .data], laidTests := true, laidLooks := .later }
def CodeTurnsUptoCardSaid : Prop := Claim7.holds Tryd.pinned (.plain (OpenSpec.upto codeTurnsSpec)) codeTurnsUptoCard

/-- THE SECOND FORM's CARD OF 'catscradlelaw02.CodeFingers'. -/
def codeFingersUptoCard : Claim7 := { stood := { row := codeFingersUptoRow, standIns := [], harness := (true, "0219669e4b6d2bd7a814d34abe922cf168d6a4513d2fd5b48f6302e3a34c2cf2"), looks := false }, kinds := [], alts := [], laidByText := true, laidKinds := [.data, .data, .data], laidTests := true, laidLooks := .later }
def CodeFingersUptoCardSaid : Prop := Claim7.holds Tryd.pinned (.plain (OpenSpec.upto codeFingersSpec)) codeFingersUptoCard

/-- THE SECOND FORM's CARD OF 'catscradlelaw02.CodeCircles'. -/
def codeCirclesUptoCard : Claim7 := { stood := { row := codeCirclesUptoRow, standIns := [], harness := (true, "0219669e4b6d2bd7a814d34abe922cf168d6a4513d2fd5b48f6302e3a34c2cf2"), looks := false }, kinds := [], alts := [], laidByText := true, laidKinds := [.data, .data, .data], laidTests := true, laidLooks := .later }
def CodeCirclesUptoCardSaid : Prop := Claim7.holds Tryd.pinned (.plain (OpenSpec.upto codeCirclesSpec)) codeCirclesUptoCard
end Rows
end Go.Proofs.YtjobnldepblciaaDoor
