/-
  DERIVED. GIVEN WITH THE SEED: THE CARDS: each row of YtclphhpcgledoaaGreatDoorRows.lean that lists a variable, with what it lists TIED to the program's text (the seventh form; the later family's looks); each row that meets fmt, with fmt's text TOLD by the authors' own Lean function (tested against real Go, not proved from fmt's source: count such statements apart). THE CARD IS WHAT COUNTS. Prove the row's statement (the work); the ties are given (YtclphhpcgledoaaGreatDoorTie.lean); close each card by the builder's one call (the guide's Derived/Test/ToyasCard.lean, 'card_holds'). Laid BY PROGRAM, IN A SANDBOX (cutbox-door.mjs). By AI agents, Wed Nov 11 2026. No macro, syntax, notation, axiom, sorry.
-/
import Derived.Test.YtclphhpcgledoaaGreatDoorRows
import GoSem.ClaimSeven
namespace Go.Proofs.YtclphhpcgledoaaGreatDoor
namespace Rows

/-- THE TIED CARD OF 'spruelaw3.SchTypes'. -/
def schTypesCard : Claim7 := { stood := { row := schTypesRow, standIns := [], harness := (true, "dc63377f8df1a1cc99ba1c741e2e5bb536ac4c92fbd3a81dddc83b637f3b4adf"), looks := true }, kinds := [], alts := [], laidByText := true, laidKinds := [.data, .data, .data, .data, .sentinel, .sentinel, .data, .data, .pinned], laidTests := true, laidLooks := .later }
def SchTypesCardSaid : Prop := Claim7.holds Tryz.pinned (.plain (OpenSpec.ofChange schTypesSpec)) schTypesCard

/-- THE TIED CARD OF 'spruelaw3.SchSchemas'. -/
def schSchemasCard : Claim7 := { stood := { row := schSchemasRow, standIns := [], harness := (true, "dc63377f8df1a1cc99ba1c741e2e5bb536ac4c92fbd3a81dddc83b637f3b4adf"), looks := true }, kinds := [], alts := [], laidByText := true, laidKinds := [.data, .data, .data, .data, .sentinel, .sentinel, .data, .data, .pinned], laidTests := true, laidLooks := .later }
def SchSchemasCardSaid : Prop := Claim7.holds Tryz.pinned (.plain (OpenSpec.ofChange schSchemasSpec)) schSchemasCard

/-- THE TIED CARD OF 'spruelaw3.SchOrder'. -/
def schOrderCard : Claim7 := { stood := { row := schOrderRow, standIns := [], harness := (true, "dc63377f8df1a1cc99ba1c741e2e5bb536ac4c92fbd3a81dddc83b637f3b4adf"), looks := true }, kinds := [], alts := [], laidByText := true, laidKinds := [.data, .data, .data, .data, .sentinel, .sentinel, .data, .data, .pinned], laidTests := true, laidLooks := .later }
def SchOrderCardSaid : Prop := Claim7.holds Tryz.pinned (.plain (OpenSpec.ofChange schOrderSpec)) schOrderCard

/-- THE TIED CARD OF 'spruelaw3.SchDeep'. -/
def schDeepCard : Claim7 := { stood := { row := schDeepRow, standIns := [], harness := (true, "dc63377f8df1a1cc99ba1c741e2e5bb536ac4c92fbd3a81dddc83b637f3b4adf"), looks := true }, kinds := [], alts := [], laidByText := true, laidKinds := [.data, .data, .data, .data, .sentinel, .sentinel, .data, .data, .pinned], laidTests := true, laidLooks := .later }
def SchDeepCardSaid : Prop := Claim7.holds Tryz.pinned (.plain (OpenSpec.ofChange schDeepSpec)) schDeepCard

/-- THE TIED CARD OF 'spruelaw3.SchAgain'. -/
def schAgainCard : Claim7 := { stood := { row := schAgainRow, standIns := [], harness := (true, "dc63377f8df1a1cc99ba1c741e2e5bb536ac4c92fbd3a81dddc83b637f3b4adf"), looks := true }, kinds := [], alts := [], laidByText := true, laidKinds := [.data, .data, .data, .data, .sentinel, .sentinel, .data, .data, .pinned], laidTests := true, laidLooks := .later }
def SchAgainCardSaid : Prop := Claim7.holds Tryz.pinned (.plain (OpenSpec.ofChange schAgainSpec)) schAgainCard

/-- THE TIED CARD OF 'spruelaw3.SchCommas'. -/
def schCommasCard : Claim7 := { stood := { row := schCommasRow, standIns := [], harness := (true, "dc63377f8df1a1cc99ba1c741e2e5bb536ac4c92fbd3a81dddc83b637f3b4adf"), looks := true }, kinds := [], alts := [], laidByText := true, laidKinds := [.data, .data, .data, .data, .sentinel, .sentinel, .data, .data, .pinned], laidTests := true, laidLooks := .later }
def SchCommasCardSaid : Prop := Claim7.holds Tryz.pinned (.plain (OpenSpec.ofChange schCommasSpec)) schCommasCard

/-- THE TIED CARD OF 'spruelaw3.SchRows'. -/
def schRowsCard : Claim7 := { stood := { row := schRowsRow, standIns := [], harness := (true, "dc63377f8df1a1cc99ba1c741e2e5bb536ac4c92fbd3a81dddc83b637f3b4adf"), looks := true }, kinds := [], alts := [], laidByText := true, laidKinds := [.data, .data, .data, .data, .sentinel, .sentinel, .data, .data, .pinned], laidTests := true, laidLooks := .later }
def SchRowsCardSaid : Prop := Claim7.holds Tryz.pinned (.plain (OpenSpec.ofChange schRowsSpec)) schRowsCard

/-- THE TIED CARD OF 'spruelaw3.SchSames'. -/
def schSamesCard : Claim7 := { stood := { row := schSamesRow, standIns := [], harness := (true, "dc63377f8df1a1cc99ba1c741e2e5bb536ac4c92fbd3a81dddc83b637f3b4adf"), looks := true }, kinds := [], alts := [], laidByText := true, laidKinds := [.data, .data, .data, .data, .sentinel, .sentinel, .data, .data, .pinned], laidTests := true, laidLooks := .later }
def SchSamesCardSaid : Prop := Claim7.holds Tryz.pinned (.plain (OpenSpec.ofChange schSamesSpec)) schSamesCard

/-- THE SECOND FORM's CARD OF 'spruelaw3.SchTypes'. -/
def schTypesUptoCard : Claim7 := { stood := { row := schTypesUptoRow, standIns := [], harness := (true, "dc63377f8df1a1cc99ba1c741e2e5bb536ac4c92fbd3a81dddc83b637f3b4adf"), looks := true }, kinds := [], alts := [], laidByText := true, laidKinds := [.data, .data, .data, .data, .sentinel, .sentinel, .data, .data, .pinned], laidTests := true, laidLooks := .later }
def SchTypesUptoCardSaid : Prop := Claim7.holds Tryz.pinned (.plain (OpenSpec.upto schTypesSpec)) schTypesUptoCard

/-- THE SECOND FORM's CARD OF 'spruelaw3.SchSchemas'. -/
def schSchemasUptoCard : Claim7 := { stood := { row := schSchemasUptoRow, standIns := [], harness := (true, "dc63377f8df1a1cc99ba1c741e2e5bb536ac4c92fbd3a81dddc83b637f3b4adf"), looks := true }, kinds := [], alts := [], laidByText := true, laidKinds := [.data, .data, .data, .data, .sentinel, .sentinel, .data, .data, .pinned], laidTests := true, laidLooks := .later }
def SchSchemasUptoCardSaid : Prop := Claim7.holds Tryz.pinned (.plain (OpenSpec.upto schSchemasSpec)) schSchemasUptoCard

/-- THE SECOND FORM's CARD OF 'spruelaw3.SchOrder'. -/
def schOrderUptoCard : Claim7 := { stood := { row := schOrderUptoRow, standIns := [], harness := (true, "dc63377f8df1a1cc99ba1c741e2e5bb536ac4c92fbd3a81dddc83b637f3b4adf"), looks := true }, kinds := [], alts := [], laidByText := true, laidKinds := [.data, .data, .data, .data, .sentinel, .sentinel, .data, .data, .pinned], laidTests := true, laidLooks := .later }
def SchOrderUptoCardSaid : Prop := Claim7.holds Tryz.pinned (.plain (OpenSpec.upto schOrderSpec)) schOrderUptoCard

/-- THE SECOND FORM's CARD OF 'spruelaw3.SchDeep'. -/
def schDeepUptoCard : Claim7 := { stood := { row := schDeepUptoRow, standIns := [], harness := (true, "dc63377f8df1a1cc99ba1c741e2e5bb536ac4c92fbd3a81dddc83b637f3b4adf"), looks := true }, kinds := [], alts := [], laidByText := true, laidKinds := [.data, .data, .data, .data, .sentinel, .sentinel, .data, .data, .pinned], laidTests := true, laidLooks := .later }
def SchDeepUptoCardSaid : Prop := Claim7.holds Tryz.pinned (.plain (OpenSpec.upto schDeepSpec)) schDeepUptoCard

/-- THE SECOND FORM's CARD OF 'spruelaw3.SchAgain'. -/
def schAgainUptoCard : Claim7 := { stood := { row := schAgainUptoRow, standIns := [], harness := (true, "dc63377f8df1a1cc99ba1c741e2e5bb536ac4c92fbd3a81dddc83b637f3b4adf"), looks := true }, kinds := [], alts := [], laidByText := true, laidKinds := [.data, .data, .data, .data, .sentinel, .sentinel, .data, .data, .pinned], laidTests := true, laidLooks := .later }
def SchAgainUptoCardSaid : Prop := Claim7.holds Tryz.pinned (.plain (OpenSpec.upto schAgainSpec)) schAgainUptoCard

/-- THE SECOND FORM's CARD OF 'spruelaw3.SchCommas'. -/
def schCommasUptoCard : Claim7 := { stood := { row := schCommasUptoRow, standIns := [], harness := (true, "dc63377f8df1a1cc99ba1c741e2e5bb536ac4c92fbd3a81dddc83b637f3b4adf"), looks := true }, kinds := [], alts := [], laidByText := true, laidKinds := [.data, .data, .data, .data, .sentinel, .sentinel, .data, .data, .pinned], laidTests := true, laidLooks := .later }
def SchCommasUptoCardSaid : Prop := Claim7.holds Tryz.pinned (.plain (OpenSpec.upto schCommasSpec)) schCommasUptoCard

/-- THE SECOND FORM's CARD OF 'spruelaw3.SchRows'. -/
def schRowsUptoCard : Claim7 := { stood := { row := schRowsUptoRow, standIns := [], harness := (true, "dc63377f8df1a1cc99ba1c741e2e5bb536ac4c92fbd3a81dddc83b637f3b4adf"), looks := true }, kinds := [], alts := [], laidByText := true, laidKinds := [.data, .data, .data, .data, .sentinel, .sentinel, .data, .data, .pinned], laidTests := true, laidLooks := .later }
def SchRowsUptoCardSaid : Prop := Claim7.holds Tryz.pinned (.plain (OpenSpec.upto schRowsSpec)) schRowsUptoCard

/-- THE SECOND FORM's CARD OF 'spruelaw3.SchSames'. -/
def schSamesUptoCard : Claim7 := { stood := { row := schSamesUptoRow, standIns := [], harness := (true, "dc63377f8df1a1cc99ba1c741e2e5bb536ac4c92fbd3a81dddc83b637f3b4adf"), looks := true }, kinds := [], alts := [], laidByText := true, laidKinds := [.data, .data, .data, .data, .sentinel, .sentinel, .data, .data, .pinned], laidTests := true, laidLooks := .later }
def SchSamesUptoCardSaid : Prop := Claim7.holds Tryz.pinned (.plain (OpenSpec.upto schSamesSpec)) schSamesUptoCard
end Rows
end Go.Proofs.YtclphhpcgledoaaGreatDoor
