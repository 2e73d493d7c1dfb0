/-
  DERIVED. GIVEN WITH THE SEED: THE CARDS: each row of YtnopllkeemhfjaaDoorRows.lean that lists a variable, with what it lists TIED to the program's text (the seventh form; the later family's looks); each row that meets fmt, with fmt's text TOLD by the authors' own Lean function (tested against real Go, not proved from fmt's source: count such statements apart). THE CARD IS WHAT COUNTS. Prove the row's statement (the work); the ties are given (YtnopllkeemhfjaaDoorTie.lean); close each card by the builder's one call (the guide's Derived/Test/ToyasCard.lean, 'card_holds'). Laid BY PROGRAM, IN A SANDBOX (cutbox-door.mjs). By AI agents, Wed Nov 11 2026. No macro, syntax, notation, axiom, sorry.
-/
import Derived.Test.YtnopllkeemhfjaaDoorRows
import GoSem.ClaimSeven
namespace Go.Proofs.YtnopllkeemhfjaaDoor
namespace Rows

/-- THE TIED CARD OF 'ravelinlaw06.TreeBuiltins'. -/
def treeBuiltinsCard : Claim7 := { stood := { row := treeBuiltinsRow, standIns := [], harness := (true, "16cfd11aa38f71bd74191769db946515359201c8f64786be25be79654d4b0154"), looks := true }, kinds := [], alts := [], laidByText := true, laidKinds := [.data, .data, .data, .data, .sentinel, .sentinel, .listed, .data, .data, .data, .pinned], laidTests := true, laidLooks := .later }
def TreeBuiltinsCardSaid : Prop := Claim7.holds Tryd.pinned (.plain (OpenSpec.ofChange treeBuiltinsSpec)) treeBuiltinsCard

/-- THE SECOND FORM's CARD OF 'ravelinlaw06.TreeBuiltins'. -/
def treeBuiltinsUptoCard : Claim7 := { stood := { row := treeBuiltinsUptoRow, standIns := [], harness := (true, "16cfd11aa38f71bd74191769db946515359201c8f64786be25be79654d4b0154"), looks := true }, kinds := [], alts := [], laidByText := true, laidKinds := [.data, .data, .data, .data, .sentinel, .sentinel, .listed, .data, .data, .data, .pinned], laidTests := true, laidLooks := .later }
def TreeBuiltinsUptoCardSaid : Prop := Claim7.holds Tryd.pinned (.plain (OpenSpec.upto treeBuiltinsSpec)) treeBuiltinsUptoCard
end Rows
end Go.Proofs.YtnopllkeemhfjaaDoor
