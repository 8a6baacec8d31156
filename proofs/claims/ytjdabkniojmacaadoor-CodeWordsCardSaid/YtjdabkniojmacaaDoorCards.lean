/-
  DERIVED. GIVEN WITH THE SEED: THE CARDS: each row of YtjdabkniojmacaaDoorRows.lean that lists a variable, with what it lists TIED to the program's text (the seventh form; the later family's looks); each row that meets fmt, with fmt's text TOLD by the authors' own Lean function (tested against real Go, not proved from fmt's source: count such statements apart). THE CARD IS WHAT COUNTS. Prove the row's statement (the work); the ties are given (YtjdabkniojmacaaDoorTie.lean); close each card by the builder's one call (the guide's Derived/Test/ToyasCard.lean, 'card_holds'). Laid BY PROGRAM, IN A SANDBOX (cutbox-door.mjs). By AI agents, Wed Nov 11 2026. No macro, syntax, notation, axiom, sorry.
-/
import Derived.Test.YtjdabkniojmacaaDoorRows
import GoSem.ClaimSeven
namespace Go.Proofs.YtjdabkniojmacaaDoor
namespace Rows

/-- THE TIED CARD OF 'catscradlelaw02.CodeFaces'. -/
def codeFacesCard : Claim7 := { stood := { row := codeFacesRow, standIns := [], harness := (true, "9a44b42cb7f9e5bd043eb2dd5455efbc3630c6c51ea466d564e4e36995fbe665"), looks := false }, kinds := [], alts := [], laidByText := true, laidKinds := [.data, .data, .data], laidTests := true, laidLooks := .later }
def CodeFacesCardSaid : Prop := Claim7.holds Tryd.pinned (.plain (OpenSpec.ofChange codeFacesSpec)) codeFacesCard

/-- THE TIED CARD OF 'catscradlelaw02.CodeEuler'. -/
def codeEulerCard : Claim7 := { stood := { row := codeEulerRow, standIns := [], harness := (true, "9a44b42cb7f9e5bd043eb2dd5455efbc3630c6c51ea466d564e4e36995fbe665"), looks := false }, kinds := [], alts := [], laidByText := true, laidKinds := [.data, .data, .data], laidTests := true, laidLooks := .later }
def CodeEulerCardSaid : Prop := Claim7.holds Tryd.pinned (.plain (OpenSpec.ofChange codeEulerSpec)) codeEulerCard

/-- THE TIED CARD OF 'catscradlelaw02.CodeNormals'. -/
def codeNormalsCard : Claim7 := { stood := { row := codeNormalsRow, standIns := [], harness := (true, "9a44b42cb7f9e5bd043eb2dd5455efbc3630c6c51ea466d564e4e36995fbe665"), looks := false }, kinds := [], alts := [], laidByText := true, laidKinds := [.data, .data, .data], laidTests := true, laidLooks := .later }
def CodeNormalsCardSaid : Prop := Claim7.holds Tryd.pinned (.plain (OpenSpec.ofChange codeNormalsSpec)) codeNormalsCard

/-- THE TIED CARD OF 'catscradlelaw02.CodeSame'. -/
def codeSameCard : Claim7 := { stood := { row := codeSameRow, standIns := [], harness := (true, "9a44b42cb7f9e5bd043eb2dd5455efbc3630c6c51ea466d564e4e36995fbe665"), looks := false }, kinds := [], alts := [], laidByText := true, laidKinds := [.data, .data, .data], laidTests := true, laidLooks := .later }
def CodeSameCardSaid : Prop := Claim7.holds Tryd.pinned (.plain (OpenSpec.ofChange codeSameSpec)) codeSameCard

/-- THE TIED CARD OF 'catscradlelaw02.CodeStarts'. -/
def codeStartsCard : Claim7 := { stood := { row := codeStartsRow, standIns := [], harness := (true, "9a44b42cb7f9e5bd043eb2dd5455efbc3630c6c51ea466d564e4e36995fbe665"), looks := false }, kinds := [], alts := [], laidByText := true, laidKinds := [.data, .data, .data], laidTests := true, laidLooks := .later }
def CodeStartsCardSaid : Prop := Claim7.holds Tryd.pinned (.plain (OpenSpec.ofChange codeStartsSpec)) codeStartsCard

/-- THE TIED CARD OF 'catscradlelaw02.CodeGroup'. -/
def codeGroupCard : Claim7 := { stood := { row := codeGroupRow, standIns := [], harness := (true, "9a44b42cb7f9e5bd043eb2dd5455efbc3630c6c51ea466d564e4e36995fbe665"), looks := false }, kinds := [], alts := [], laidByText := true, laidKinds := [.data, .data, .data], laidTests := true, laidLooks := .later }
def CodeGroupCardSaid : Prop := Claim7.holds Tryd.pinned (.plain (OpenSpec.ofChange codeGroupSpec)) codeGroupCard

/-- THE TIED CARD OF 'catscradlelaw02.CodeForgets'. -/
def codeForgetsCard : Claim7 := { stood := { row := codeForgetsRow, standIns := [], harness := (true, "9a44b42cb7f9e5bd043eb2dd5455efbc3630c6c51ea466d564e4e36995fbe665"), looks := false }, kinds := [], alts := [], laidByText := true, laidKinds := [.data, .data, .data], laidTests := true, laidLooks := .later }
def CodeForgetsCardSaid : Prop := Claim7.holds Tryd.pinned (.plain (OpenSpec.ofChange codeForgetsSpec)) codeForgetsCard

/-- THE TIED CARD OF 'catscradlelaw02.CodeWords'. -/
def codeWordsCard : Claim7 := { stood := { row := codeWordsRow, standIns := [], harness := (true, "9a44b42cb7f9e5bd043eb2dd5455efbc3630c6c51ea466d564e4e36995fbe665"), looks := false }, kinds := [], alts := [], laidByText := true, laidKinds := [.data, .data, .data], laidTests := true, laidLooks := .later }
def CodeWordsCardSaid : Prop := Claim7.holds Tryd.pinned (.plain (OpenSpec.ofChange codeWordsSpec)) codeWordsCard

/-- THE TIED CARD OF 'catscradlelaw02.CodeOwn'. -/
def codeOwnCard : Claim7 := { stood := { row := codeOwnRow, standIns := [], harness := (true, "9a44b42cb7f9e5bd043eb2dd5455efbc3630c6c51ea466d564e4e36995fbe665"), looks := false }, kinds := [], alts := [], laidByText := true, laidKinds := [.data, .data, .data], laidTests := true, laidLooks := .later }
def CodeOwnCardSaid : Prop := Claim7.holds Tryd.pinned (.plain (OpenSpec.ofChange codeOwnSpec)) codeOwnCard

/-- THE SECOND FORM's CARD OF 'catscradlelaw02.CodeFaces'. -/
def codeFacesUptoCard : Claim7 := { stood := { row := codeFacesUptoRow, standIns := [], harness := (true, "9a44b42cb7f9e5bd043eb2dd5455efbc3630c6c51ea466d564e4e36995fbe665"), looks := false }, kinds := [], alts := [], laidByText := true, laidKinds := [.data, .data, .data], laidTests := true, laidLooks := .later }
def CodeFacesUptoCardSaid : Prop := Claim7.holds Tryd.pinned (.plain (OpenSpec.upto codeFacesSpec)) codeFacesUptoCard

/-- THE SECOND FORM's CARD OF 'catscradlelaw02.CodeEuler'. -/
def codeEulerUptoCard : Claim7 := { stood := { row := codeEulerUptoRow, standIns := [], harness := (true, "9a44b42cb7f9e5bd043eb2dd5455efbc3630c6c51ea466d564e4e36995fbe665"), looks := false }, kinds := [], alts := [], laidByText := true, laidKinds := [.data, .data, .data], laidTests := true, laidLooks := .later }
def CodeEulerUptoCardSaid : Prop := Claim7.holds Tryd.pinned (.plain (OpenSpec.upto codeEulerSpec)) codeEulerUptoCard

/-- THE SECOND FORM's CARD OF 'catscradlelaw02.CodeNormals'. -/
def codeNormalsUptoCard : Claim7 := { stood := { row := codeNormalsUptoRow, standIns := [], harness := (true, "9a44b42cb7f9e5bd043eb2dd5455efbc3630c6c51ea466d564e4e36995fbe665"), looks := false }, kinds := [], alts := [], laidByText := true, laidKinds := [.data, .data, .data], laidTests := true, laidLooks := .later }
def CodeNormalsUptoCardSaid : Prop := Claim7.holds Tryd.pinned (.plain (OpenSpec.upto codeNormalsSpec)) codeNormalsUptoCard

/-- THE SECOND FORM's CARD OF 'catscradlelaw02.CodeSame'. -/
def codeSameUptoCard : Claim7 := { stood := { row := codeSameUptoRow, standIns := [], harness := (true, "9a44b42cb7f9e5bd043eb2dd5455efbc3630c6c51ea466d564e4e36995fbe665"), looks := false }, kinds := [], alts := [], laidByText := true, laidKinds := [.data, .data, .data], laidTests := true, laidLooks := .later }
def CodeSameUptoCardSaid : Prop := Claim7.holds Tryd.pinned (.plain (OpenSpec.upto codeSameSpec)) codeSameUptoCard

/-- THE SECOND FORM's CARD OF 'catscradlelaw02.CodeStarts'. -/
def codeStartsUptoCard : Claim7 := { stood := { row := codeStartsUptoRow, standIns := [], harness := (true, "9a44b42cb7f9e5bd043eb2dd5455efbc3630c6c51ea466d564e4e36995fbe665"), looks := false }, kinds := [], alts := [], laidByText := true, laidKinds := [.data, .data, .data], laidTests := true, laidLooks := .later }
def CodeStartsUptoCardSaid : Prop := Claim7.holds Tryd.pinned (.plain (OpenSpec.upto codeStartsSpec)) codeStartsUptoCard

/-- THE SECOND FORM's CARD OF 'catscradlelaw02.CodeGroup'. -/
def codeGroupUptoCard : Claim7 := { stood := { row := codeGroupUptoRow, standIns := [], harness := (true, "9a44b42cb7f9e5bd043eb2dd5455efbc3630c6c51ea466d564e4e36995fbe665"), looks := false }, kinds := [], alts := [], laidByText := true, laidKinds := [.data, .data, .data], laidTests := true, laidLooks := .later }
def CodeGroupUptoCardSaid : Prop := Claim7.holds Tryd.pinned (.plain (OpenSpec.upto codeGroupSpec)) codeGroupUptoCard

/-- THE SECOND FORM's CARD OF 'catscradlelaw02.CodeForgets'. -/
def codeForgetsUptoCard : Claim7 := { stood := { row := codeForgetsUptoRow, standIns := [], harness := (true, "9a44b42cb7f9e5bd043eb2dd5455efbc3630c6c51ea466d564e4e36995fbe665"), looks := false }, kinds := [], alts := [], laidByText := true, laidKinds := [.data, .data, .data], laidTests := true, laidLooks := .later }
def CodeForgetsUptoCardSaid : Prop := Claim7.holds Tryd.pinned (.plain (OpenSpec.upto codeForgetsSpec)) codeForgetsUptoCard

/-- THE SECOND FORM's CARD OF 'catscradlelaw02.CodeWords'. -/
def codeWordsUptoCard : Claim7 := { stood := { row := codeWordsUptoRow, standIns := [], harness := (true, "9a44b42cb7f9e5bd043eb2dd5455efbc3630c6c51ea466d564e4e36995fbe665"), looks := false }, kinds := [], alts := [], laidByText := true, laidKinds := [.data, .data, .data], laidTests := true, laidLooks := .later }
def CodeWordsUptoCardSaid : Prop := Claim7.holds Tryd.pinned (.plain (OpenSpec.upto codeWordsSpec)) codeWordsUptoCard

/-- THE SECOND FORM's CARD OF 'catscradlelaw02.CodeOwn'. -/
def codeOwnUptoCard : Claim7 := { stood := { row := codeOwnUptoRow, standIns := [], harness := (true, "9a44b42cb7f9e5bd043eb2dd5455efbc3630c6c51ea466d564e4e36995fbe665"), looks := false }, kinds := [], alts := [], laidByText := true, laidKinds := [.data, .data, .data], laidTests := true, laidLooks := .later }
def CodeOwnUptoCardSaid : Prop := Claim7.holds Tryd.pinned (.plain (OpenSpec.upto codeOwnSpec)) codeOwnUptoCard
end Rows
end Go.Proofs.YtjdabkniojmacaaDoor
