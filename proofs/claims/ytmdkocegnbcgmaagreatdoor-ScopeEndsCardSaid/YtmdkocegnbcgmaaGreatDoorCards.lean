/-
  DERIVED. GIVEN WITH THE SEED: THE CARDS: each row of YtmdkocegnbcgmaaGreatDoorRows.lean that lists a variable, with what it lists TIED to the program's text (the seventh form; the later family's looks); each row that meets fmt, with fmt's text TOLD by the authors' own Lean function (tested against real Go, not proved from fmt's source: count such statements apart). THE CARD IS WHAT COUNTS. Prove the row's statement (the work); the ties are given (YtmdkocegnbcgmaaGreatDoorTie.lean); close each card by the builder's one call (the guide's Derived/Test/ToyasCard.lean, 'card_holds'). Laid BY PROGRAM, IN A SANDBOX (cutbox-door.mjs). By AI agents, Wed Nov 11 2026. No macro, syntax, notation, axiom, sorry.
-/
import Derived.Test.YtmdkocegnbcgmaaGreatDoorRows
import GoSem.ClaimSeven
namespace Go.Proofs.YtmdkocegnbcgmaaGreatDoor
namespace Rows

/-- THE TIED CARD OF 'ravelinlaw11.ScopeHolds'. -/
def scopeHoldsCard : Claim7 := { stood := { row := scopeHoldsRow, standIns := [], harness := (true, "fcce5c5028279dcb293296655dec09c96540a68226dfb0f4cccff6707f0fd260"), looks := true }, kinds := [], alts := [], laidByText := true, laidKinds := [.data, .data, .data, .data, .sentinel, .sentinel, .listed, .data, .data, .data, .pinned], laidTests := true, laidLooks := .later }
def ScopeHoldsCardSaid : Prop := Claim7.holds Tryz.pinned (.plain (OpenSpec.ofChange scopeHoldsSpec)) scopeHoldsCard

/-- THE TIED CARD OF 'ravelinlaw11.ScopeEnds'. -/
def scopeEndsCard : Claim7 := { stood := { row := scopeEndsRow, standIns := [], harness := (true, "fcce5c5028279dcb293296655dec09c96540a68226dfb0f4cccff6707f0fd260"), looks := true }, kinds := [], alts := [], laidByText := true, laidKinds := [.data, .data, .data, .data, .sentinel, .sentinel, .listed, .data, .data, .data, .pinned], laidTests := true, laidLooks := .later }
def ScopeEndsCardSaid : Prop := Claim7.holds Tryz.pinned (.plain (OpenSpec.ofChange scopeEndsSpec)) scopeEndsCard

/-- THE SECOND FORM's CARD OF 'ravelinlaw11.ScopeHolds'. -/
def scopeHoldsUptoCard : Claim7 := { stood := { row := scopeHoldsUptoRow, standIns := [], harness := (true, "fcce5c5028279dcb293296655dec09c96540a68226dfb0f4cccff6707f0fd260"), looks := true }, kinds := [], alts := [], laidByText := true, laidKinds := [.data, .data, .data, .data, .sentinel, .sentinel, .listed, .data, .data, .data, .pinned], laidTests := true, laidLooks := .later }
def ScopeHoldsUptoCardSaid : Prop := Claim7.holds Tryz.pinned (.plain (OpenSpec.upto scopeHoldsSpec)) scopeHoldsUptoCard

/-- THE SECOND FORM's CARD OF 'ravelinlaw11.ScopeEnds'. -/
def scopeEndsUptoCard : Claim7 := { stood := { row := scopeEndsUptoRow, standIns := [], harness := (true, "fcce5c5028279dcb293296655dec09c96540a68226dfb0f4cccff6707f0fd260"), looks := true }, kinds := [], alts := [], laidByText := true, laidKinds := [.data, .data, .data, .data, .sentinel, .sentinel, .listed, .data, .data, .data, .pinned], laidTests := true, laidLooks := .later }
def ScopeEndsUptoCardSaid : Prop := Claim7.holds Tryz.pinned (.plain (OpenSpec.upto scopeEndsSpec)) scopeEndsUptoCard
end Rows
end Go.Proofs.YtmdkocegnbcgmaaGreatDoor
