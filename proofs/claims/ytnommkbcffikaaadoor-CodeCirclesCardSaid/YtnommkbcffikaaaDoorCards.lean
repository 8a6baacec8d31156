/-
  DERIVED. GIVEN WITH THE SEED: THE CARDS: each row of YtnommkbcffikaaaDoorRows.lean that lists a variable, with what it lists TIED to the program's text (the seventh form; the later family's looks); each row that meets fmt, with fmt's text TOLD by the authors' own Lean function (tested against real Go, not proved from fmt's source: count such statements apart). THE CARD IS WHAT COUNTS. Prove the row's statement (the work); the ties are given (YtnommkbcffikaaaDoorTie.lean); close each card by the builder's one call (the guide's Derived/Test/ToyasCard.lean, 'card_holds'). Laid BY PROGRAM, IN A SANDBOX (cutbox-door.mjs). By AI agents, Wed Nov 11 2026. No macro, syntax, notation, axiom, sorry.
-/
import Derived.Test.YtnommkbcffikaaaDoorRows
import GoSem.ClaimSeven
namespace Go.Proofs.YtnommkbcffikaaaDoor
namespace Rows

/-- THE TIED CARD OF 'catscradlelaw02.CodeChecks'. -/
def codeChecksCard : Claim7 := { stood := { row := codeChecksRow, standIns := [], harness := (true, "97979132c95598de2edcfd15b6b5480069f2714c8d960d6c8cadf72dce0b9671"), looks := false }, kinds := [], alts := [], laidByText := true, laidKinds := [.data, .data, .data], laidTests := true, laidLooks := .later }
def CodeChecksCardSaid : Prop := Claim7.holds Tryd.pinned (.plain (OpenSpec.ofChange codeChecksSpec)) codeChecksCard

/-- THE TIED CARD OF 'catscradlelaw02.CodeErrors'. -/
def codeErrorsCard : Claim7 := { stood := { row := codeErrorsRow, standIns := [], harness := (true, "97979132c95598de2edcfd15b6b5480069f2714c8d960d6c8cadf72dce0b9671"), looks := false }, kinds := [], alts := [], laidByText := true, laidKinds := [.data, .data, .data], laidTests := true, laidLooks := .later }
def CodeErrorsCardSaid : Prop := Claim7.holds Tryd.pinned (.plain (OpenSpec.ofChange codeErrorsSpec)) codeErrorsCard

/-- THE TIED CARD OF 'catscradlelaw02.CodeFaces'. -/
def codeFacesCard : Claim7 := { stood := { row := codeFacesRow, standIns := [], harness := (true, "97979132c95598de2edcfd15b6b5480069f2714c8d960d6c8cadf72dce0b9671"), looks := false }, kinds := [], alts := [], laidByText := true, laidKinds := [.data, .data, .data], laidTests := true, laidLooks := .later }
def CodeFacesCardSaid : Prop := Claim7.holds Tryd.pinned (.plain (OpenSpec.ofChange codeFacesSpec)) codeFacesCard

/-- THE TIED CARD OF 'catscradlelaw02.CodeNormals'. -/
def codeNormalsCard : Claim7 := { stood := { row := codeNormalsRow, standIns := [], harness := (true, "97979132c95598de2edcfd15b6b5480069f2714c8d960d6c8cadf72dce0b9671"), looks := false }, kinds := [], alts := [], laidByText := true, laidKinds := [.data, .data, .data], laidTests := true, laidLooks := .later }
def CodeNormalsCardSaid : Prop := Claim7.holds Tryd.pinned (.plain (OpenSpec.ofChange codeNormalsSpec)) codeNormalsCard

/-- THE TIED CARD OF 'catscradlelaw02.CodeSame'. -/
def codeSameCard : Claim7 := { stood := { row := codeSameRow, standIns := [], harness := (true, "97979132c95598de2edcfd15b6b5480069f2714c8d960d6c8cadf72dce0b9671"), looks := false }, kinds := [], alts := [], laidByText := true, laidKinds := [.data, .data, .data], laidTests := true, laidLooks := .later }
def CodeSameCardSaid : Prop := Claim7.holds Tryd.pinned (.plain (OpenSpec.ofChange codeSameSpec)) codeSameCard

/-- THE TIED CARD OF 'catscradlelaw02.CodeTurns'. -/
def codeTurnsCard : Claim7 := { stood := { row := codeTurnsRow, standIns := [], harness := (true, "97979132c95598de2edcfd15b6b5480069f2714c8d960d6c8cadf72dce0b9671"), looks := false }, kinds := [], alts := [], laidByText := true, laidKinds := [.data, .data, .data], laidTests := true, laidLooks := .later }
def CodeTurnsCardSaid : Prop := Claim7.holds Tryd.pinned (.plain (OpenSpec.ofChange codeTurnsSpec)) codeTurnsCard

/-- THE TIED CARD OF 'catscradlelaw02.CodeFingers'. -/
def codeFingersCard : Claim7 := { stood := { row := codeFingersRow, standIns := [], harness := (true, "97979132c95598de2edcfd15b6b5480069f2714c8d960d6c8cadf72dce0b9671"), looks := false }, kinds := [], alts := [], laidByText := true, laidKinds := [.data, .data, .data], laidTests := true, laidLooks := .later }
def CodeFingersCardSaid : Prop := Claim7.holds Tryd.pinned (.plain (OpenSpec.ofChange codeFingersSpec)) codeFingersCard

/-- THE TIED CARD OF 'catscradlelaw02.CodeWords'. -/
def codeWordsCard : Claim7 := { stood := { row := codeWordsRow, standIns := [], harness := (true, "97979132c95598de2edcfd15b6b5480069f2714c8d960d6c8cadf72dce0b9671"), looks := false }, kinds := [], alts := [], laidByText := true, laidKinds := [.data, .data, .data], laidTests := true, laidLooks := .later }
def CodeWordsCardSaid : Prop := Claim7.holds Tryd.pinned (.plain (OpenSpec.ofChange codeWordsSpec)) codeWordsCard

/-- THE TIED CARD OF 'catscradlelaw02.CodeCircles'. -/
def codeCirclesCard : Claim7 := { stood := { row := codeCirclesRow, standIns := [], harness := (true, "97979132c95598de2edcfd15b6b5480069f2714c8d960d6c8cadf72dce0b9671"), looks := false }, kinds := [], alts := [], laidByText := true, laidKinds := [.data, .data, .data], laidTests := true, laidLooks := .later }
def CodeCirclesCardSaid : Prop := Claim7.holds Tryd.pinned (.plain (OpenSpec.ofChange codeCirclesSpec)) codeCirclesCard

/-- THE TIED CARD OF 'catscradlelaw02.CodeOwn'. -/
def codeOwnCard : Claim7 := { stood := { row := codeOwnRow, standIns := [], harness := (true, "97979132c95598de2edcfd15b6b5480069f2714c8d960d6c8cadf72dce0b9671"), looks := false }, kinds := [], alts := [], laidByText := true, laidKinds := [.data, .data, .data], laidTests := true, laidLooks := .later }
def CodeOwnCardSaid : Prop := Claim7.holds Tryd.pinned (.plain (OpenSpec.ofChange codeOwnSpec)) codeOwnCard

/-- THE SECOND FORM's CARD OF 'catscradlelaw02.CodeChecks'. -/
def codeChecksUptoCard : Claim7 := { stood := { row := codeChecksUptoRow, standIns := [], harness := (true, "97979132c95598de2edcfd15b6b5480069f2714c8d960d6c8cadf72dce0b9671"), looks := false }, kinds := [], alts := [], laidByText := true, laidKinds := [.data, .data, .data], laidTests := true, laidLooks := .later }
def CodeChecksUptoCardSaid : Prop := Claim7.holds Tryd.pinned (.plain (OpenSpec.upto codeChecksSpec)) codeChecksUptoCard

/-- THE SECOND FORM's CARD OF 'catscradlelaw02.CodeErrors'. -/
def codeErrorsUptoCard : Claim7 := { stood := { row := codeErrorsUptoRow, standIns := [], harness := (true, "97979132c95598de2edcfd15b6b5480069f2714c8d960d6c8cadf72dce0b9671"), looks := false }, kinds := [], alts := [], laidByText := true, laidKinds := [.data, .data, .data], laidTests := true, laidLooks := .later }
def CodeErrorsUptoCardSaid : Prop := Claim7.holds Tryd.pinned (.plain (OpenSpec.upto codeErrorsSpec)) codeErrorsUptoCard

/-- THE SECOND FORM's CARD OF 'catscradlelaw02.CodeFaces'. -/
def codeFacesUptoCard : Claim7 := { stood := { row := codeFacesUptoRow, standIns := [], harness := (true, "97979132c95598de2edcfd15b6b5480069f2714c8d960d6c8cadf72dce0b9671"), looks := false }, kinds := [], alts := [], laidByText := true, laidKinds := [.data, .data, .data], laidTests := true, laidLooks := .later }
def CodeFacesUptoCardSaid : Prop := Claim7.holds Tryd.pinned (.plain (OpenSpec.upto codeFacesSpec)) codeFacesUptoCard

/-- THE SECOND FORM's CARD OF 'catscradlelaw02.CodeNormals'. -/
def codeNormalsUptoCard : Claim7 := { stood := { row := codeNormalsUptoRow, standIns := [], harness := (true, "97979132c95598de2edcfd15b6b5480069f2714c8d960d6c8cadf72dce0b9671"), looks := false }, kinds := [], alts := [], laidByText := true, laidKinds := [.data, .data, .data], laidTests := true, laidLooks := .later }
def CodeNormalsUptoCardSaid : Prop := Claim7.holds Tryd.pinned (.plain (OpenSpec.upto codeNormalsSpec)) codeNormalsUptoCard

/-- THE SECOND FORM's CARD OF 'catscradlelaw02.CodeSame'. -/
def codeSameUptoCard : Claim7 := { stood := { row := codeSameUptoRow, standIns := [], harness := (true, "97979132c95598de2edcfd15b6b5480069f2714c8d960d6c8cadf72dce0b9671"), looks := false }, kinds := [], alts := [], laidByText := true, laidKinds := [.data, .data, .data], laidTests := true, laidLooks := .later }
def CodeSameUptoCardSaid : Prop := Claim7.holds Tryd.pinned (.plain (OpenSpec.upto codeSameSpec)) codeSameUptoCard

/-- THE SECOND FORM's CARD OF 'catscradlelaw02.CodeTurns'. -/
def codeTurnsUptoCard : Claim7 := { stood := { row := codeTurnsUptoRow, standIns := [], harness := (true, "97979132c95598de2edcfd15b6b5480069f2714c8d960d6c8cadf72dce0b9671"), looks := false }, kinds := [], alts := [], laidByText := true, laidKinds := [.data, .data, .data], laidTests := true, laidLooks := .later }
def CodeTurnsUptoCardSaid : Prop := Claim7.holds Tryd.pinned (.plain (OpenSpec.upto codeTurnsSpec)) codeTurnsUptoCard

/-- THE SECOND FORM's CARD OF 'catscradlelaw02.CodeFingers'. -/
def codeFingersUptoCard : Claim7 := { stood := { row := codeFingersUptoRow, standIns := [], harness := (true, "97979132c95598de2edcfd15b6b5480069f2714c8d960d6c8cadf72dce0b9671"), looks := false }, kinds := [], alts := [], laidByText := true, laidKinds := [.data, .data, .data], laidTests := true, laidLooks := .later }
def CodeFingersUptoCardSaid : Prop := Claim7.holds Tryd.pinned (.plain (OpenSpec.upto codeFingersSpec)) codeFingersUptoCard

/-- THE SECOND FORM's CARD OF 'catscradlelaw02.CodeWords'. -/
def codeWordsUptoCard : Claim7 := { stood := { row := codeWordsUptoRow, standIns := [], harness := (true, "97979132c95598de2edcfd15b6b5480069f2714c8d960d6c8cadf72dce0b9671"), looks := false }, kinds := [], alts := [], laidByText := true, laidKinds := [.data, .data, .data], laidTests := true, laidLooks := .later }
def CodeWordsUptoCardSaid : Prop := Claim7.holds Tryd.pinned (.plain (OpenSpec.upto codeWordsSpec)) codeWordsUptoCard

/-- THE SECOND FORM's CARD OF 'catscradlelaw02.CodeCircles'. -/
def codeCirclesUptoCard : Claim7 := { stood := { row := codeCirclesUptoRow, standIns := [], harness := (true, "97979132c95598de2edcfd15b6b5480069f2714c8d960d6c8cadf72dce0b9671"), looks := false }, kinds := [], alts := [], laidByText := true, laidKinds := [.data, .data, .data], laidTests := true, laidLooks := .later }
def CodeCirclesUptoCardSaid : Prop := Claim7.holds Tryd.pinned (.plain (OpenSpec.upto codeCirclesSpec)) codeCirclesUptoCard

/-- THE SECOND FORM's CARD OF 'catscradlelaw02.CodeOwn'. -/
def codeOwnUptoCard : Claim7 := { stood := { row := codeOwnUptoRow, standIns := [], harness := (true, "97979132c95598de2edcfd15b6b5480069f2714c8d960d6c8cadf72dce0b9671"), looks := false }, kinds := [], alts := [], laidByText := true, laidKinds := [.data, .data, .data], laidTests := true, laidLooks := .later }
def CodeOwnUptoCardSaid : Prop := Claim7.holds Tryd.pinned (.plain (OpenSpec.upto codeOwnSpec)) codeOwnUptoCard
end Rows
end Go.Proofs.YtnommkbcffikaaaDoor
