/-
  DERIVED. GIVEN WITH THE SEED: THE CARDS: each row of YtmcnoagihnkkcaaDoorRows.lean that lists a variable, with what it lists TIED to the program's text (the seventh form; the later family's looks); each row that meets fmt, with fmt's text TOLD by the authors' own Lean function (tested against real Go, not proved from fmt's source: count such statements apart). THE CARD IS WHAT COUNTS. Prove the row's statement (the work); the ties are given (YtmcnoagihnkkcaaDoorTie.lean); close each card by the builder's one call (the guide's Derived/Test/ToyasCard.lean, 'card_holds'). Laid BY PROGRAM, IN A SANDBOX (cutbox-door.mjs). By AI agents, Wed Nov 11 2026. No macro, syntax, notation, axiom, sorry.
-/
import Derived.Test.YtmcnoagihnkkcaaDoorRows
import GoSem.ClaimSeven
namespace Go.Proofs.YtmcnoagihnkkcaaDoor
namespace Rows

/-- THE TIED CARD OF 'ravelinlaw09.TypesShows'. -/
def typesShowsCard : Claim7 := { stood := { row := typesShowsRow, standIns := [], harness := (true, "41c307e647006bf66efbca3eb57063ac8db57e4e0bc5fef386bdc4c1f547e0ea"), looks := true }, kinds := [], alts := [], laidByText := true, laidKinds := [.data, .data, .data], laidTests := true, laidLooks := .later }
def TypesShowsCardSaid : Prop := Claim7.holds Tryd.pinned (.plain (OpenSpec.ofChange typesShowsSpec)) typesShowsCard

/-- THE TIED CARD OF 'ravelinlaw09.TypesKinds'. -/
def typesKindsCard : Claim7 := { stood := { row := typesKindsRow, standIns := [], harness := (true, "41c307e647006bf66efbca3eb57063ac8db57e4e0bc5fef386bdc4c1f547e0ea"), looks := true }, kinds := [], alts := [], laidByText := true, laidKinds := [.data, .data, .data], laidTests := true, laidLooks := .later }
def TypesKindsCardSaid : Prop := Claim7.holds Tryd.pinned (.plain (OpenSpec.ofChange typesKindsSpec)) typesKindsCard

/-- THE TIED CARD OF 'ravelinlaw09.TypesUnions'. -/
def typesUnionsCard : Claim7 := { stood := { row := typesUnionsRow, standIns := [], harness := (true, "41c307e647006bf66efbca3eb57063ac8db57e4e0bc5fef386bdc4c1f547e0ea"), looks := true }, kinds := [], alts := [], laidByText := true, laidKinds := [.data, .data, .data], laidTests := true, laidLooks := .later }
def TypesUnionsCardSaid : Prop := Claim7.holds Tryd.pinned (.plain (OpenSpec.ofChange typesUnionsSpec)) typesUnionsCard

/-- THE SECOND FORM's CARD OF 'ravelinlaw09.TypesShows'. -/
def typesShowsUptoCard : Claim7 := { stood := { row := typesShowsUptoRow, standIns := [], harness := (true, "41c307e647006bf66efbca3eb57063ac8db57e4e0bc5fef386bdc4c1f547e0ea"), looks := true }, kinds := [], alts := [], laidByText := true, laidKinds := [.data, .data, .data], laidTests := true, laidLooks := .later }
def TypesShowsUptoCardSaid : Prop := Claim7.holds Tryd.pinned (.plain (OpenSpec.upto typesShowsSpec)) typesShowsUptoCard

/-- THE SECOND FORM's CARD OF 'ravelinlaw09.TypesKinds'. -/
def typesKindsUptoCard : Claim7 := { stood := { row := typesKindsUptoRow, standIns := [], harness := (true, "41c307e647006bf66efbca3eb57063ac8db57e4e0bc5fef386bdc4c1f547e0ea"), looks := true }, kinds := [], alts := [], laidByText := true, laidKinds := [.data, .data, .data], laidTests := true, laidLooks := .later }
def TypesKindsUptoCardSaid : Prop := Claim7.holds Tryd.pinned (.plain (OpenSpec.upto typesKindsSpec)) typesKindsUptoCard

/-- THE SECOND FORM's CARD OF 'ravelinlaw09.TypesUnions'. -/
def typesUnionsUptoCard : Claim7 := { stood := { row := typesUnionsUptoRow, standIns := [], harness := (true, "41c307e647006bf66efbca3eb57063ac8db57e4e0bc5fef386bdc4c1f547e0ea"), looks := true }, kinds := [], alts := [], laidByText := true, laidKinds := [.data, .data, .data], laidTests := true, laidLooks := .later }
def TypesUnionsUptoCardSaid : Prop := Claim7.holds Tryd.pinned (.plain (OpenSpec.upto typesUnionsSpec)) typesUnionsUptoCard
end Rows
end Go.Proofs.YtmcnoagihnkkcaaDoor
