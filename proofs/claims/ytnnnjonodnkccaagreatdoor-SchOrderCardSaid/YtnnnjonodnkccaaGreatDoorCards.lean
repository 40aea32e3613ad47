/-
  DERIVED. GIVEN WITH THE SEED: THE CARDS: each row of YtnnnjonodnkccaaGreatDoorRows.lean that lists a variable, with what it lists TIED to the program's text (the seventh form; the later family's looks); each row that meets fmt, with fmt's text TOLD by the authors' own Lean function (tested against real Go, not proved from fmt's source: count such statements apart). THE CARD IS WHAT COUNTS. Prove the row's statement (the work); the ties are given (YtnnnjonodnkccaaGreatDoorTie.lean); close each card by the builder's one call (the guide's Derived/Test/ToyasCard.lean, 'card_holds'). Laid BY PROGRAM, IN A SANDBOX (cutbox-door.mjs). By AI agents, Wed Nov 11 2026. No macro, syntax, notation, axiom, sorry.
-/
import Derived.Test.YtnnnjonodnkccaaGreatDoorRows
import GoSem.ClaimSeven
namespace Go.Proofs.YtnnnjonodnkccaaGreatDoor
namespace Rows

/-- THE TIED CARD OF 'spruelaw3.SchOrder'. -/
def schOrderCard : Claim7 := { stood := { row := schOrderRow, standIns := [], harness := (true, "cc552301d7550607bdc12d149c27d01f9cc791e73c42cdde05b897f35db5f6fe"), looks := true }, kinds := [], alts := [], laidByText := true, laidKinds := [.data, .data, .data, .data, .sentinel, .sentinel, .data, .data, .pinned], laidTests := true, laidLooks := .later }
def SchOrderCardSaid : Prop := Claim7.holds Tryz.pinned (.plain (OpenSpec.ofChange schOrderSpec)) schOrderCard

/-- THE TIED CARD OF 'spruelaw3.SchAgain'. -/
def schAgainCard : Claim7 := { stood := { row := schAgainRow, standIns := [], harness := (true, "cc552301d7550607bdc12d149c27d01f9cc791e73c42cdde05b897f35db5f6fe"), looks := true }, kinds := [], alts := [], laidByText := true, laidKinds := [.data, .data, .data, .data, .sentinel, .sentinel, .data, .data, .pinned], laidTests := true, laidLooks := .later }
def SchAgainCardSaid : Prop := Claim7.holds Tryz.pinned (.plain (OpenSpec.ofChange schAgainSpec)) schAgainCard

/-- THE TIED CARD OF 'spruelaw3.SchSames'. -/
def schSamesCard : Claim7 := { stood := { row := schSamesRow, standIns := [], harness := (true, "cc552301d7550607bdc12d149c27d01f9cc791e73c42cdde05b897f35db5f6fe"), looks := true }, kinds := [], alts := [], laidByText := true, laidKinds := [.data, .data, .data, .data, .sentinel, .sentinel, .data, .data, .pinned], laidTests := true, laidLooks := .later }
def SchSamesCardSaid : Prop := Claim7.holds Tryz.pinned (.plain (OpenSpec.ofChange schSamesSpec)) schSamesCard

/-- THE SECOND FORM's CARD OF 'spruelaw3.SchOrder'. -/
def schOrderUptoCard : Claim7 := { stood := { row := schOrderUptoRow, standIns := [], harness := (true, "cc552301d7550607bdc12d149c27d01f9cc791e73c42cdde05b897f35db5f6fe"), looks := true }, kinds := [], alts := [], laidByText := true, laidKinds := [.data, .data, .data, .data, .sentinel, .sentinel, .data, .data, .pinned], laidTests := true, laidLooks := .later }
def SchOrderUptoCardSaid : Prop := Claim7.holds Tryz.pinned (.plain (OpenSpec.upto schOrderSpec)) schOrderUptoCard

/-- THE SECOND FORM's CARD OF 'spruelaw3.SchAgain'. -/
def schAgainUptoCard : Claim7 := { stood := { row := schAgainUptoRow, standIns := [], harness := (true, "cc552301d7550607bdc12d149c27d01f9cc791e73c42cdde05b897f35db5f6fe"), looks := true }, kinds := [], alts := [], laidByText := true, laidKinds := [.data, .data, .data, .data, .sentinel, .sentinel, .data, .data, .pinned], laidTests := true, laidLooks := .later }
def SchAgainUptoCardSaid : Prop := Claim7.holds Tryz.pinned (.plain (OpenSpec.upto schAgainSpec)) schAgainUptoCard

/-- THE SECOND FORM's CARD OF 'spruelaw3.SchSames'. -/
def schSamesUptoCard : Claim7 := { stood := { row := schSamesUptoRow, standIns := [], harness := (true, "cc552301d7550607bdc12d149c27d01f9cc791e73c42cdde05b897f35db5f6fe"), looks := true }, kinds := [], alts := [], laidByText := true, laidKinds := [.data, .data, .data, .data, .sentinel, .sentinel, .data, .data, .pinned], laidTests := true, laidLooks := .later }
def SchSamesUptoCardSaid : Prop := Claim7.holds Tryz.pinned (.plain (OpenSpec.upto schSamesSpec)) schSamesUptoCard
end Rows
end Go.Proofs.YtnnnjonodnkccaaGreatDoor
