/-
  DERIVED. GIVEN WITH THE SEED: THE CARDS: each row of YtbbpockkafbfmaaDoorRows.lean that lists a variable, with what it lists TIED to the program's text (the seventh form; the later family's looks); each row that meets fmt, with fmt's text TOLD by the authors' own Lean function (tested against real Go, not proved from fmt's source: count such statements apart). THE CARD IS WHAT COUNTS. Prove the row's statement (the work); the ties are given (YtbbpockkafbfmaaDoorTie.lean); close each card by the builder's one call (the guide's Derived/Test/ToyasCard.lean, 'card_holds'). Laid BY PROGRAM, IN A SANDBOX (cutbox-door.mjs). By AI agents, Wed Nov 11 2026. No macro, syntax, notation, axiom, sorry.
-/
import Derived.Test.YtbbpockkafbfmaaDoorRows
import GoSem.ClaimSeven
namespace Go.Proofs.YtbbpockkafbfmaaDoor
namespace Rows

/-- THE TIED CARD OF 'catscradlelaw01.LineAll'. -/
def lineAllCard : Claim7 := { stood := { row := lineAllRow, standIns := [], harness := (true, "9c5fee53ad457b21f1d19c3f99e191f04c2a9d13eee22b70ab7441cd588f66d7"), looks := false }, kinds := [], alts := [], laidByText := true, laidKinds := [.data, .data, .data], laidTests := true, laidLooks := .later }
def LineAllCardSaid : Prop := Claim7.holds Tryd.pinned (.plain (OpenSpec.ofChange lineAllSpec)) lineAllCard

/-- THE TIED CARD OF 'catscradlelaw02.CodeFaces'. -/
def codeFacesCard : Claim7 := { stood := { row := codeFacesRow, standIns := [], harness := (true, "9c5fee53ad457b21f1d19c3f99e191f04c2a9d13eee22b70ab7441cd588f66d7"), looks := false }, kinds := [], alts := [], laidByText := true, laidKinds := [.data, .data, .data], laidTests := true, laidLooks := .later }
def CodeFacesCardSaid : Prop := Claim7.holds Tryd.pinned (.plain (OpenSpec.ofChange codeFacesSpec)) codeFacesCard

/-- THE TIED CARD OF 'catscradlelaw02.CodeEuler'. -/
def codeEulerCard : Claim7 := { stood := { row := codeEulerRow, standIns := [], harness := (true, "9c5fee53ad457b21f1d19c3f99e191f04c2a9d13eee22b70ab7441cd588f66d7"), looks := false }, kinds := [], alts := [], laidByText := true, laidKinds := [.data, .data, .data], laidTests := true, laidLooks := .later }
def CodeEulerCardSaid : Prop := Claim7.holds Tryd.pinned (.plain (OpenSpec.ofChange codeEulerSpec)) codeEulerCard

/-- THE TIED CARD OF 'catscradlelaw02.CodePlain'. -/
def codePlainCard : Claim7 := { stood := { row := codePlainRow, standIns := [], harness := (true, "9c5fee53ad457b21f1d19c3f99e191f04c2a9d13eee22b70ab7441cd588f66d7"), looks := false }, kinds := [], alts := [], laidByText := true, laidKinds := [.data, .data, .data], laidTests := true, laidLooks := .later }
def CodePlainCardSaid : Prop := Claim7.holds Tryd.pinned (.plain (OpenSpec.ofChange codePlainSpec)) codePlainCard

/-- THE SECOND FORM's CARD OF 'catscradlelaw01.LineAll'. -/
def lineAllUptoCard : Claim7 := { stood := { row := lineAllUptoRow, standIns := [], harness := (true, "9c5fee53ad457b21f1d19c3f99e191f04c2a9d13eee22b70ab7441cd588f66d7"), looks := false }, kinds := [], alts := [], laidByText := true, laidKinds := [.data, .data, .data], laidTests := true, laidLooks := .later }
def LineAllUptoCardSaid : Prop := Claim7.holds Tryd.pinned (.plain (OpenSpec.upto lineAllSpec)) lineAllUptoCard

/-- THE SECOND FORM's CARD OF 'catscradlelaw02.CodeFaces'. -/
def codeFacesUptoCard : Claim7 := { stood := { row := codeFacesUptoRow, standIns := [], harness := (true, "9c5fee53ad457b21f1d19c3f99e191f04c2a9d13eee22b70ab7441cd588f66d7"), looks := false }, kinds := [], alts := [], laidByText := true, laidKinds := [.data, .data, .data], laidTests := true, laidLooks := .later }
def CodeFacesUptoCardSaid : Prop := Claim7.holds Tryd.pinned (.plain (OpenSpec.upto codeFacesSpec)) codeFacesUptoCard

/-- THE SECOND FORM's CARD OF 'catscradlelaw02.CodeEuler'. -/
def codeEulerUptoCard : Claim7 := { stood := { row := codeEulerUptoRow, standIns := [], harness := (true, "9c5fee53ad457b21f1d19c3f99e191f04c2a9d13eee22b70ab7441cd588f66d7"), looks := false }, kinds := [], alts := [], laidByText := true, laidKinds := [.data, .data, .data], laidTests := true, laidLooks := .later }
def CodeEulerUptoCardSaid : Prop := Claim7.holds Tryd.pinned (.plain (OpenSpec.upto codeEulerSpec)) codeEulerUptoCard

/-- THE SECOND FORM's CARD OF 'catscradlelaw02.CodePlain'. -/
def codePlainUptoCard : Claim7 := { stood := { row := codePlainUptoRow, standIns := [], harness := (true, "9c5fee53ad457b21f1d19c3f99e191f04c2a9d13eee22b70ab7441cd588f66d7"), looks := false }, kinds := [], alts := [], laidByText := true, laidKinds := [.data, .data, .data], laidTests := true, laidLooks := .later }
def CodePlainUptoCardSaid : Prop := Claim7.holds Tryd.pinned (.plain (OpenSpec.upto codePlainSpec)) codePlainUptoCard
end Rows
end Go.Proofs.YtbbpockkafbfmaaDoor
