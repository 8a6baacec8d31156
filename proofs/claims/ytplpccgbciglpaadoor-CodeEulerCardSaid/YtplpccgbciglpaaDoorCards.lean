/-
  DERIVED. GIVEN WITH THE SEED: THE CARDS: each row of YtplpccgbciglpaaDoorRows.lean that lists a variable, with what it lists TIED to the program's text (the seventh form; the later family's looks); each row that meets fmt, with fmt's text TOLD by the authors' own Lean function (tested against real Go, not proved from fmt's source: count such statements apart). THE CARD IS WHAT COUNTS. Prove the row's statement (the work); the ties are given (YtplpccgbciglpaaDoorTie.lean); close each card by the builder's one call (the guide's Derived/Test/ToyasCard.lean, 'card_holds'). Laid BY PROGRAM, IN A SANDBOX (cutbox-door.mjs). By AI agents, Wed Nov 11 2026. No macro, syntax, notation, axiom, sorry.
-/
import Derived.Test.YtplpccgbciglpaaDoorRows
import GoSem.ClaimSeven
namespace Go.Proofs.YtplpccgbciglpaaDoor
namespace Rows

/-- THE TIED CARD OF 'catscradlelaw02.CodeFaces'. -/
def codeFacesCard : Claim7 := { stood := { row := codeFacesRow, standIns := [], harness := (true, "2d11e755fdd9632a0d7dd99b18100fa3166f0c302ec6efb7385473474c6df871"), looks := false }, kinds := [], alts := [], laidByText := true, laidKinds := [.data, .data, .data], laidTests := true, laidLooks := .later }
def CodeFacesCardSaid : Prop := Claim7.holds Tryd.pinned (.plain (OpenSpec.ofChange codeFacesSpec)) codeFacesCard

/-- THE TIED CARD OF 'catscradlelaw02.CodeEuler'. -/
def codeEulerCard : Claim7 := { stood := { row := codeEulerRow, standIns := [], harness := (true, "2d11e755fdd9632a0d7dd99b18100fa3166f0c302ec6efb7385473474c6df871"), looks := false }, kinds := [], alts := [], laidByText := true, laidKinds := [.data, .data, .data], laidTests := true, laidLooks := .later }
def CodeEulerCardSaid : Prop := Claim7.holds Tryd.pinned (.plain (OpenSpec.ofChange codeEulerSpec)) codeEulerCard

/-- THE TIED CARD OF 'catscradlelaw02.CodeForgets'. -/
def codeForgetsCard : Claim7 := { stood := { row := codeForgetsRow, standIns := [], harness := (true, "2d11e755fdd9632a0d7dd99b18100fa3166f0c302ec6efb7385473474c6df871"), looks := false }, kinds := [], alts := [], laidByText := true, laidKinds := [.data, .data, .data], laidTests := true, laidLooks := .later }
def CodeForgetsCardSaid : Prop := Claim7.holds Tryd.pinned (.plain (OpenSpec.ofChange codeForgetsSpec)) codeForgetsCard

/-- THE TIED CARD OF 'catscradlelaw02.CodePlain'. -/
def codePlainCard : Claim7 := { stood := { row := codePlainRow, standIns := [], harness := (true, "2d11e755fdd9632a0d7dd99b18100fa3166f0c302ec6efb7385473474c6df871"), looks := false }, kinds := [], alts := [], laidByText := true, laidKinds := [.data, .data, .data], laidTests := true, laidLooks := .later }
def CodePlainCardSaid : Prop := Claim7.holds Tryd.pinned (.plain (OpenSpec.ofChange codePlainSpec)) codePlainCard

/-- THE SECOND FORM's CARD OF 'catscradlelaw02.CodeFaces'. -/
def codeFacesUptoCard : Claim7 := { stood := { row := codeFacesUptoRow, standIns := [], harness := (true, "2d11e755fdd9632a0d7dd99b18100fa3166f0c302ec6efb7385473474c6df871"), looks := false }, kinds := [], alts := [], laidByText := true, laidKinds := [.data, .data, .data], laidTests := true, laidLooks := .later }
def CodeFacesUptoCardSaid : Prop := Claim7.holds Tryd.pinned (.plain (OpenSpec.upto codeFacesSpec)) codeFacesUptoCard

/-- THE SECOND FORM's CARD OF 'catscradlelaw02.CodeEuler'. -/
def codeEulerUptoCard : Claim7 := { stood := { row := codeEulerUptoRow, standIns := [], harness := (true, "2d11e755fdd9632a0d7dd99b18100fa3166f0c302ec6efb7385473474c6df871"), looks := false }, kinds := [], alts := [], laidByText := true, laidKinds := [.data, .data, .data], laidTests := true, laidLooks := .later }
def CodeEulerUptoCardSaid : Prop := Claim7.holds Tryd.pinned (.plain (OpenSpec.upto codeEulerSpec)) codeEulerUptoCard

/-- THE SECOND FORM's CARD OF 'catscradlelaw02.CodeForgets'. -/
def codeForgetsUptoCard : Claim7 := { stood := { row := codeForgetsUptoRow, standIns := [], harness := (true, "2d11e755fdd9632a0d7dd99b18100fa3166f0c302ec6efb7385473474c6df871"), looks := false }, kinds := [], alts := [], laidByText := true, laidKinds := [.data, .data, .data], laidTests := true, laidLooks := .later }
def CodeForgetsUptoCardSaid : Prop := Claim7.holds Tryd.pinned (.plain (OpenSpec.upto codeForgetsSpec)) codeForgetsUptoCard

/-- THE SECOND FORM's CARD OF 'catscradlelaw02.CodePlain'. -/
def codePlainUptoCard : Claim7 := { stood := { row := codePlainUptoRow, standIns := [], harness := (true, "2d11e755fdd9632a0d7dd99b18100fa3166f0c302ec6efb7385473474c6df871"), looks := false }, kinds := [], alts := [], laidByText := true, laidKinds := [.data, .data, .data], laidTests := true, laidLooks := .later }
def CodePlainUptoCardSaid : Prop := Claim7.holds Tryd.pinned (.plain (OpenSpec.upto codePlainSpec)) codePlainUptoCard
end Rows
end Go.Proofs.YtplpccgbciglpaaDoor
