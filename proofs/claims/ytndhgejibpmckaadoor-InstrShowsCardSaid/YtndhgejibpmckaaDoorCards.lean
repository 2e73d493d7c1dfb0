/-
  DERIVED. GIVEN WITH THE SEED: THE CARDS: each row of YtndhgejibpmckaaDoorRows.lean that lists a variable, with what it lists TIED to the program's text (the seventh form; the later family's looks); each row that meets fmt, with fmt's text TOLD by the authors' own Lean function (tested against real Go, not proved from fmt's source: count such statements apart). THE CARD IS WHAT COUNTS. Prove the row's statement (the work); the ties are given (YtndhgejibpmckaaDoorTie.lean); close each card by the builder's one call (the guide's Derived/Test/ToyasCard.lean, 'card_holds'). Laid BY PROGRAM, IN A SANDBOX (cutbox-door.mjs). By AI agents, Wed Nov 11 2026. No macro, syntax, notation, axiom, sorry.
-/
import Derived.Test.YtndhgejibpmckaaDoorRows
import GoSem.ClaimSeven
namespace Go.Proofs.YtndhgejibpmckaaDoor
namespace Rows

/-- THE TIED CARD OF 'ravelinlaw15.InstrWrites'. -/
def instrWritesCard : Claim7 := { stood := { row := instrWritesRow, standIns := [], harness := (true, "b12bbb06813770247c3c16b618012ddaf4349ce5319a7a7894a94c732ab43681"), looks := false }, kinds := [], alts := [], laidByText := true, laidKinds := [.data, .data], laidTests := true, laidLooks := .later }
def InstrWritesCardSaid : Prop := Claim7.holds Tryd.pinned (.plain (OpenSpec.ofChange instrWritesSpec)) instrWritesCard

/-- THE TIED CARD OF 'ravelinlaw15.InstrReads'. -/
def instrReadsCard : Claim7 := { stood := { row := instrReadsRow, standIns := [], harness := (true, "b12bbb06813770247c3c16b618012ddaf4349ce5319a7a7894a94c732ab43681"), looks := false }, kinds := [], alts := [], laidByText := true, laidKinds := [.data, .data], laidTests := true, laidLooks := .later }
def InstrReadsCardSaid : Prop := Claim7.holds Tryd.pinned (.plain (OpenSpec.ofChange instrReadsSpec)) instrReadsCard

/-- THE TIED CARD OF 'ravelinlaw15.InstrForms'. -/
def instrFormsCard : Claim7 := { stood := { row := instrFormsRow, standIns := [], harness := (true, "b12bbb06813770247c3c16b618012ddaf4349ce5319a7a7894a94c732ab43681"), looks := false }, kinds := [], alts := [], laidByText := true, laidKinds := [.data, .data], laidTests := true, laidLooks := .later }
def InstrFormsCardSaid : Prop := Claim7.holds Tryd.pinned (.plain (OpenSpec.ofChange instrFormsSpec)) instrFormsCard

/-- THE TIED CARD OF 'ravelinlaw15.InstrShows'. -/
def instrShowsCard : Claim7 := { stood := { row := instrShowsRow, standIns := [], harness := (true, "b12bbb06813770247c3c16b618012ddaf4349ce5319a7a7894a94c732ab43681"), looks := false }, kinds := [], alts := [], laidByText := true, laidKinds := [.data, .data, .data, .data, .data], laidTests := true, laidLooks := .later }
def InstrShowsCardSaid : Prop := Claim7.holds Tryd.pinned (.plain (OpenSpec.ofChange instrShowsSpec)) instrShowsCard

/-- THE TIED CARD OF 'ravelinlaw15.InstrBack'. -/
def instrBackCard : Claim7 := { stood := { row := instrBackRow, standIns := [], harness := (true, "b12bbb06813770247c3c16b618012ddaf4349ce5319a7a7894a94c732ab43681"), looks := false }, kinds := [], alts := [], laidByText := true, laidKinds := [.data, .data], laidTests := true, laidLooks := .later }
def InstrBackCardSaid : Prop := Claim7.holds Tryd.pinned (.plain (OpenSpec.ofChange instrBackSpec)) instrBackCard

/-- THE SECOND FORM's CARD OF 'ravelinlaw15.InstrWrites'. -/
def instrWritesUptoCard : Claim7 := { stood := { row := instrWritesUptoRow, standIns := [], harness := (true, "b12bbb06813770247c3c16b618012ddaf4349ce5319a7a7894a94c732ab43681"), looks := false }, kinds := [], alts := [], laidByText := true, laidKinds := [.data, .data], laidTests := true, laidLooks := .later }
def InstrWritesUptoCardSaid : Prop := Claim7.holds Tryd.pinned (.plain (OpenSpec.upto instrWritesSpec)) instrWritesUptoCard

/-- THE SECOND FORM's CARD OF 'ravelinlaw15.InstrReads'. -/
def instrReadsUptoCard : Claim7 := { stood := { row := instrReadsUptoRow, standIns := [], harness := (true, "b12bbb06813770247c3c16b618012ddaf4349ce5319a7a7894a94c732ab43681"), looks := false }, kinds := [], alts := [], laidByText := true, laidKinds := [.data, .data], laidTests := true, laidLooks := .later }
def InstrReadsUptoCardSaid : Prop := Claim7.holds Tryd.pinned (.plain (OpenSpec.upto instrReadsSpec)) instrReadsUptoCard

/-- THE SECOND FORM's CARD OF 'ravelinlaw15.InstrForms'. -/
def instrFormsUptoCard : Claim7 := { stood := { row := instrFormsUptoRow, standIns := [], harness := (true, "b12bbb06813770247c3c16b618012ddaf4349ce5319a7a7894a94c732ab43681"), looks := false }, kinds := [], alts := [], laidByText := true, laidKinds := [.data, .data], laidTests := true, laidLooks := .later }
def InstrFormsUptoCardSaid : Prop := Claim7.holds Tryd.pinned (.plain (OpenSpec.upto instrFormsSpec)) instrFormsUptoCard

/-- THE SECOND FORM's CARD OF 'ravelinlaw15.InstrShows'. -/
def instrShowsUptoCard : Claim7 := { stood := { row := instrShowsUptoRow, standIns := [], harness := (true, "b12bbb06813770247c3c16b618012ddaf4349ce5319a7a7894a94c732ab43681"), looks := false }, kinds := [], alts := [], laidByText := true, laidKinds := [.data, .data, .data, .data, .data], laidTests := true, laidLooks := .later }
def InstrShowsUptoCardSaid : Prop := Claim7.holds Tryd.pinned (.plain (OpenSpec.upto instrShowsSpec)) instrShowsUptoCard

/-- THE SECOND FORM's CARD OF 'ravelinlaw15.InstrBack'. -/
def instrBackUptoCard : Claim7 := { stood := { row := instrBackUptoRow, standIns := [], harness := (true, "b12bbb06813770247c3c16b618012ddaf4349ce5319a7a7894a94c732ab43681"), looks := false }, kinds := [], alts := [], laidByText := true, laidKinds := [.data, .data], laidTests := true, laidLooks := .later }
def InstrBackUptoCardSaid : Prop := Claim7.holds Tryd.pinned (.plain (OpenSpec.upto instrBackSpec)) instrBackUptoCard
end Rows
end Go.Proofs.YtndhgejibpmckaaDoor
