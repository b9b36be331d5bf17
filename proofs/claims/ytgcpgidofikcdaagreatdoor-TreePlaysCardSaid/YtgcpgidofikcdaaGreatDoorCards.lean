/-
  DERIVED. GIVEN WITH THE SEED: THE CARDS: each row of YtgcpgidofikcdaaGreatDoorRows.lean that lists a variable, with what it lists TIED to the program's text (the seventh form; the later family's looks); each row that meets fmt, with fmt's text TOLD by the authors' own Lean function (tested against real Go, not proved from fmt's source: count such statements apart). THE CARD IS WHAT COUNTS. Prove the row's statement (the work); the ties are given (YtgcpgidofikcdaaGreatDoorTie.lean); close each card by the builder's one call (the guide's Derived/Test/ToyasCard.lean, 'card_holds'). Laid BY PROGRAM, IN A SANDBOX (cutbox-door.mjs). By AI agents, Wed Nov 11 2026. No macro, syntax, notation, axiom, sorry.
-/
import Derived.Test.YtgcpgidofikcdaaGreatDoorRows
import GoSem.ClaimSeven
namespace Go.Proofs.YtgcpgidofikcdaaGreatDoor
namespace Rows

/-- THE TIED CARD OF 'lintellaw17.TreeKnown'. -/
def treeKnownCard : Claim7 := { stood := { row := treeKnownRow, standIns := [], harness := (true, "77c3c3315b7fede74da666ae8bc2a3bbb24a967afcd29ca99faa336dc389cdf0"), looks := false }, kinds := [], alts := [], laidByText := true, laidKinds := [.data, .data, .data, .data, .pinned], laidTests := true, laidLooks := .later }
def TreeKnownCardSaid : Prop := Claim7.holds Tryz.pinned (.plain (OpenSpec.ofChange treeKnownSpec)) treeKnownCard

/-- THE TIED CARD OF 'lintellaw17.TreePlays'. -/
def treePlaysCard : Claim7 := { stood := { row := treePlaysRow, standIns := [], harness := (true, "77c3c3315b7fede74da666ae8bc2a3bbb24a967afcd29ca99faa336dc389cdf0"), looks := false }, kinds := [], alts := [], laidByText := true, laidKinds := [.data, .pinned], laidTests := true, laidLooks := .later }
def TreePlaysCardSaid : Prop := Claim7.holds Tryz.pinned (.plain (OpenSpec.ofChange treePlaysSpec)) treePlaysCard

/-- THE TIED CARD OF 'lintellaw18.ImageMakes'. -/
def imageMakesCard : Claim7 := { stood := { row := imageMakesRow, standIns := [], harness := (true, "77c3c3315b7fede74da666ae8bc2a3bbb24a967afcd29ca99faa336dc389cdf0"), looks := false }, kinds := [], alts := [], laidByText := true, laidKinds := [.data, .data, .data], laidTests := true, laidLooks := .later }
def ImageMakesCardSaid : Prop := Claim7.holds Tryz.pinned (.plain (OpenSpec.ofChange imageMakesSpec)) imageMakesCard

/-- THE TIED CARD OF 'lintellaw18.ImageBits'. -/
def imageBitsCard : Claim7 := { stood := { row := imageBitsRow, standIns := [], harness := (true, "77c3c3315b7fede74da666ae8bc2a3bbb24a967afcd29ca99faa336dc389cdf0"), looks := false }, kinds := [], alts := [], laidByText := true, laidKinds := [.data, .data, .data], laidTests := true, laidLooks := .later }
def ImageBitsCardSaid : Prop := Claim7.holds Tryz.pinned (.plain (OpenSpec.ofChange imageBitsSpec)) imageBitsCard

/-- THE TIED CARD OF 'lintellaw18.ImageOpens'. -/
def imageOpensCard : Claim7 := { stood := { row := imageOpensRow, standIns := [], harness := (true, "77c3c3315b7fede74da666ae8bc2a3bbb24a967afcd29ca99faa336dc389cdf0"), looks := false }, kinds := [], alts := [], laidByText := true, laidKinds := [.data, .data, .data], laidTests := true, laidLooks := .later }
def ImageOpensCardSaid : Prop := Claim7.holds Tryz.pinned (.plain (OpenSpec.ofChange imageOpensSpec)) imageOpensCard

/-- THE TIED CARD OF 'lintellaw19.CheckShow'. -/
def checkShowCard : Claim7 := { stood := { row := checkShowRow, standIns := [], harness := (true, "77c3c3315b7fede74da666ae8bc2a3bbb24a967afcd29ca99faa336dc389cdf0"), looks := false }, kinds := [], alts := [], laidByText := true, laidKinds := [.data, .data, .data], laidTests := true, laidLooks := .later }
def CheckShowCardSaid : Prop := Claim7.holds Tryz.pinned (.plain (OpenSpec.ofChange checkShowSpec)) checkShowCard

/-- THE SECOND FORM's CARD OF 'lintellaw17.TreeKnown'. -/
def treeKnownUptoCard : Claim7 := { stood := { row := treeKnownUptoRow, standIns := [], harness := (true, "77c3c3315b7fede74da666ae8bc2a3bbb24a967afcd29ca99faa336dc389cdf0"), looks := false }, kinds := [], alts := [], laidByText := true, laidKinds := [.data, .data, .data, .data, .pinned], laidTests := true, laidLooks := .later }
def TreeKnownUptoCardSaid : Prop := Claim7.holds Tryz.pinned (.plain (OpenSpec.upto treeKnownSpec)) treeKnownUptoCard

/-- THE SECOND FORM's CARD OF 'lintellaw17.TreePlays'. -/
def treePlaysUptoCard : Claim7 := { stood := { row := treePlaysUptoRow, standIns := [], harness := (true, "77c3c3315b7fede74da666ae8bc2a3bbb24a967afcd29ca99faa336dc389cdf0"), looks := false }, kinds := [], alts := [], laidByText := true, laidKinds := [.data, .pinned], laidTests := true, laidLooks := .later }
def TreePlaysUptoCardSaid : Prop := Claim7.holds Tryz.pinned (.plain (OpenSpec.upto treePlaysSpec)) treePlaysUptoCard

/-- THE SECOND FORM's CARD OF 'lintellaw18.ImageMakes'. -/
def imageMakesUptoCard : Claim7 := { stood := { row := imageMakesUptoRow, standIns := [], harness := (true, "77c3c3315b7fede74da666ae8bc2a3bbb24a967afcd29ca99faa336dc389cdf0"), looks := false }, kinds := [], alts := [], laidByText := true, laidKinds := [.data, .data, .data], laidTests := true, laidLooks := .later }
def ImageMakesUptoCardSaid : Prop := Claim7.holds Tryz.pinned (.plain (OpenSpec.upto imageMakesSpec)) imageMakesUptoCard

/-- THE SECOND FORM's CARD OF 'lintellaw18.ImageBits'. -/
def imageBitsUptoCard : Claim7 := { stood := { row := imageBitsUptoRow, standIns := [], harness := (true, "77c3c3315b7fede74da666ae8bc2a3bbb24a967afcd29ca99faa336dc389cdf0"), looks := false }, kinds := [], alts := [], laidByText := true, laidKinds := [.data, .data, .data], laidTests := true, laidLooks := .later }
def ImageBitsUptoCardSaid : Prop := Claim7.holds Tryz.pinned (.plain (OpenSpec.upto imageBitsSpec)) imageBitsUptoCard

/-- THE SECOND FORM's CARD OF 'lintellaw18.ImageOpens'. -/
def imageOpensUptoCard : Claim7 := { stood := { row := imageOpensUptoRow, standIns := [], harness := (true, "77c3c3315b7fede74da666ae8bc2a3bbb24a967afcd29ca99faa336dc389cdf0"), looks := false }, kinds := [], alts := [], laidByText := true, laidKinds := [.data, .data, .data], laidTests := true, laidLooks := .later }
def ImageOpensUptoCardSaid : Prop := Claim7.holds Tryz.pinned (.plain (OpenSpec.upto imageOpensSpec)) imageOpensUptoCard

/-- THE SECOND FORM's CARD OF 'lintellaw19.CheckShow'. -/
def checkShowUptoCard : Claim7 := { stood := { row := checkShowUptoRow, standIns := [], harness := (true, "77c3c3315b7fede74da666ae8bc2a3bbb24a967afcd29ca99faa336dc389cdf0"), looks := false }, kinds := [], alts := [], laidByText := true, laidKinds := [.data, .data, .data], laidTests := true, laidLooks := .later }
def CheckShowUptoCardSaid : Prop := Claim7.holds Tryz.pinned (.plain (OpenSpec.upto checkShowSpec)) checkShowUptoCard
end Rows
end Go.Proofs.YtgcpgidofikcdaaGreatDoor
