/-
  DERIVED. GIVEN WITH THE SEED: THE CARDS: each row of YthcdbmbimdkcfaaDoorRows.lean that lists a variable, with what it lists TIED to the program's text (the seventh form; the later family's looks); each row that meets fmt, with fmt's text TOLD by the authors' own Lean function (tested against real Go, not proved from fmt's source: count such statements apart). THE CARD IS WHAT COUNTS. Prove the row's statement (the work); the ties are given (YthcdbmbimdkcfaaDoorTie.lean); close each card by the builder's one call (the guide's Derived/Test/ToyasCard.lean, 'card_holds'). Laid BY PROGRAM, IN A SANDBOX (cutbox-door.mjs). By AI agents, Wed Nov 11 2026. No macro, syntax, notation, axiom, sorry.
-/
import Derived.Test.YthcdbmbimdkcfaaDoorRows
import GoSem.ClaimSeven
namespace Go.Proofs.YthcdbmbimdkcfaaDoor
namespace Rows

/-- THE TIED CARD OF 'ravelinlaw10.RelateSubs'. -/
def relateSubsCard : Claim7 := { stood := { row := relateSubsRow, standIns := [], harness := (true, "bd3ba541fbe44dbb7e7458810b8d6e0fdb9fa51a637d8f2948b14c71fc1e7895"), looks := true }, kinds := [], alts := [], laidByText := true, laidKinds := [.data, .data], laidTests := true, laidLooks := .later }
def RelateSubsCardSaid : Prop := Claim7.holds Tryd.pinned (.plain (OpenSpec.ofChange relateSubsSpec)) relateSubsCard

/-- THE TIED CARD OF 'ravelinlaw10.RelateEases'. -/
def relateEasesCard : Claim7 := { stood := { row := relateEasesRow, standIns := [], harness := (true, "bd3ba541fbe44dbb7e7458810b8d6e0fdb9fa51a637d8f2948b14c71fc1e7895"), looks := true }, kinds := [], alts := [], laidByText := true, laidKinds := [.data, .data], laidTests := true, laidLooks := .later }
def RelateEasesCardSaid : Prop := Claim7.holds Tryd.pinned (.plain (OpenSpec.ofChange relateEasesSpec)) relateEasesCard

/-- THE TIED CARD OF 'ravelinlaw10.RelatePrecise'. -/
def relatePreciseCard : Claim7 := { stood := { row := relatePreciseRow, standIns := [], harness := (true, "bd3ba541fbe44dbb7e7458810b8d6e0fdb9fa51a637d8f2948b14c71fc1e7895"), looks := true }, kinds := [], alts := [], laidByText := true, laidKinds := [.data, .data], laidTests := true, laidLooks := .later }
def RelatePreciseCardSaid : Prop := Claim7.holds Tryd.pinned (.plain (OpenSpec.ofChange relatePreciseSpec)) relatePreciseCard

/-- THE TIED CARD OF 'ravelinlaw10.RelateMeets'. -/
def relateMeetsCard : Claim7 := { stood := { row := relateMeetsRow, standIns := [], harness := (true, "bd3ba541fbe44dbb7e7458810b8d6e0fdb9fa51a637d8f2948b14c71fc1e7895"), looks := true }, kinds := [], alts := [], laidByText := true, laidKinds := [.data, .data], laidTests := true, laidLooks := .later }
def RelateMeetsCardSaid : Prop := Claim7.holds Tryd.pinned (.plain (OpenSpec.ofChange relateMeetsSpec)) relateMeetsCard

/-- THE TIED CARD OF 'ravelinlaw10.RelateSides'. -/
def relateSidesCard : Claim7 := { stood := { row := relateSidesRow, standIns := [], harness := (true, "bd3ba541fbe44dbb7e7458810b8d6e0fdb9fa51a637d8f2948b14c71fc1e7895"), looks := true }, kinds := [], alts := [], laidByText := true, laidKinds := [.data, .data], laidTests := true, laidLooks := .later }
def RelateSidesCardSaid : Prop := Claim7.holds Tryd.pinned (.plain (OpenSpec.ofChange relateSidesSpec)) relateSidesCard

/-- THE TIED CARD OF 'ravelinlaw10.RelateChains'. -/
def relateChainsCard : Claim7 := { stood := { row := relateChainsRow, standIns := [], harness := (true, "bd3ba541fbe44dbb7e7458810b8d6e0fdb9fa51a637d8f2948b14c71fc1e7895"), looks := true }, kinds := [], alts := [], laidByText := true, laidKinds := [.data, .data], laidTests := true, laidLooks := .later }
def RelateChainsCardSaid : Prop := Claim7.holds Tryd.pinned (.plain (OpenSpec.ofChange relateChainsSpec)) relateChainsCard

/-- THE TIED CARD OF 'ravelinlaw10.RelateSelf'. -/
def relateSelfCard : Claim7 := { stood := { row := relateSelfRow, standIns := [], harness := (true, "bd3ba541fbe44dbb7e7458810b8d6e0fdb9fa51a637d8f2948b14c71fc1e7895"), looks := true }, kinds := [], alts := [], laidByText := true, laidKinds := [.data, .data], laidTests := true, laidLooks := .later }
def RelateSelfCardSaid : Prop := Claim7.holds Tryd.pinned (.plain (OpenSpec.ofChange relateSelfSpec)) relateSelfCard

/-- THE TIED CARD OF 'ravelinlaw10.RelateLeast'. -/
def relateLeastCard : Claim7 := { stood := { row := relateLeastRow, standIns := [], harness := (true, "bd3ba541fbe44dbb7e7458810b8d6e0fdb9fa51a637d8f2948b14c71fc1e7895"), looks := true }, kinds := [], alts := [], laidByText := true, laidKinds := [.data, .data], laidTests := true, laidLooks := .later }
def RelateLeastCardSaid : Prop := Claim7.holds Tryd.pinned (.plain (OpenSpec.ofChange relateLeastSpec)) relateLeastCard

/-- THE TIED CARD OF 'ravelinlaw10.RelateJoins'. -/
def relateJoinsCard : Claim7 := { stood := { row := relateJoinsRow, standIns := [], harness := (true, "bd3ba541fbe44dbb7e7458810b8d6e0fdb9fa51a637d8f2948b14c71fc1e7895"), looks := true }, kinds := [], alts := [], laidByText := true, laidKinds := [.data, .data], laidTests := true, laidLooks := .later }
def RelateJoinsCardSaid : Prop := Claim7.holds Tryd.pinned (.plain (OpenSpec.ofChange relateJoinsSpec)) relateJoinsCard

/-- THE TIED CARD OF 'ravelinlaw10.RelateVague'. -/
def relateVagueCard : Claim7 := { stood := { row := relateVagueRow, standIns := [], harness := (true, "bd3ba541fbe44dbb7e7458810b8d6e0fdb9fa51a637d8f2948b14c71fc1e7895"), looks := true }, kinds := [], alts := [], laidByText := true, laidKinds := [.data, .data], laidTests := true, laidLooks := .later }
def RelateVagueCardSaid : Prop := Claim7.holds Tryd.pinned (.plain (OpenSpec.ofChange relateVagueSpec)) relateVagueCard

/-- THE SECOND FORM's CARD OF 'ravelinlaw10.RelateSubs'. -/
def relateSubsUptoCard : Claim7 := { stood := { row := relateSubsUptoRow, standIns := [], harness := (true, "bd3ba541fbe44dbb7e7458810b8d6e0fdb9fa51a637d8f2948b14c71fc1e7895"), looks := true }, kinds := [], alts := [], laidByText := true, laidKinds := [.data, .data], laidTests := true, laidLooks := .later }
def RelateSubsUptoCardSaid : Prop := Claim7.holds Tryd.pinned (.plain (OpenSpec.upto relateSubsSpec)) relateSubsUptoCard

/-- THE SECOND FORM's CARD OF 'ravelinlaw10.RelateEases'. -/
def relateEasesUptoCard : Claim7 := { stood := { row := relateEasesUptoRow, standIns := [], harness := (true, "bd3ba541fbe44dbb7e7458810b8d6e0fdb9fa51a637d8f2948b14c71fc1e7895"), looks := true }, kinds := [], alts := [], laidByText := true, laidKinds := [.data, .data], laidTests := true, laidLooks := .later }
def RelateEasesUptoCardSaid : Prop := Claim7.holds Tryd.pinned (.plain (OpenSpec.upto relateEasesSpec)) relateEasesUptoCard

/-- THE SECOND FORM's CARD OF 'ravelinlaw10.RelatePrecise'. -/
def relatePreciseUptoCard : Claim7 := { stood := { row := relatePreciseUptoRow, standIns := [], harness := (true, "bd3ba541fbe44dbb7e7458810b8d6e0fdb9fa51a637d8f2948b14c71fc1e7895"), looks := true }, kinds := [], alts := [], laidByText := true, laidKinds := [.data, .data], laidTests := true, laidLooks := .later }
def RelatePreciseUptoCardSaid : Prop := Claim7.holds Tryd.pinned (.plain (OpenSpec.upto relatePreciseSpec)) relatePreciseUptoCard

/-- THE SECOND FORM's CARD OF 'ravelinlaw10.RelateMeets'. -/
def relateMeetsUptoCard : Claim7 := { stood := { row := relateMeetsUptoRow, standIns := [], harness := (true, "bd3ba541fbe44dbb7e7458810b8d6e0fdb9fa51a637d8f2948b14c71fc1e7895"), looks := true }, kinds := [], alts := [], laidByText := true, laidKinds := [.data, .data], laidTests := true, laidLooks := .later }
def RelateMeetsUptoCardSaid : Prop := Claim7.holds Tryd.pinned (.plain (OpenSpec.upto relateMeetsSpec)) relateMeetsUptoCard

/-- THE SECOND FORM's CARD OF 'ravelinlaw10.RelateSides'. -/
def relateSidesUptoCard : Claim7 := { stood := { row := relateSidesUptoRow, standIns := [], harness := (true, "bd3ba541fbe44dbb7e7458810b8d6e0fdb9fa51a637d8f2948b14c71fc1e7895"), looks := true }, kinds := [], alts := [], laidByText := true, laidKinds := [.data, .data], laidTests := true, laidLooks := .later }
def RelateSidesUptoCardSaid : Prop := Claim7.holds Tryd.pinned (.plain (OpenSpec.upto relateSidesSpec)) relateSidesUptoCard

/-- THE SECOND FORM's CARD OF 'ravelinlaw10.RelateChains'. -/
def relateChainsUptoCard : Claim7 := { stood := { row := relateChainsUptoRow, standIns := [], harness := (true, "bd3ba541fbe44dbb7e7458810b8d6e0fdb9fa51a637d8f2948b14c71fc1e7895"), looks := true }, kinds := [], alts := [], laidByText := true, laidKinds := [.data, .data], laidTests := true, laidLooks := .later }
def RelateChainsUptoCardSaid : Prop := Claim7.holds Tryd.pinned (.plain (OpenSpec.upto relateChainsSpec)) relateChainsUptoCard

/-- THE SECOND FORM's CARD OF 'ravelinlaw10.RelateSelf'. -/
def relateSelfUptoCard : Claim7 := { stood := { row := relateSelfUptoRow, standIns := [], harness := (true, "bd3ba541fbe44dbb7e7458810b8d6e0fdb9fa51a637d8f2948b14c71fc1e7895"), looks := true }, kinds := [], alts := [], laidByText := true, laidKinds := [.data, .data], laidTests := true, laidLooks := .later }
def RelateSelfUptoCardSaid : Prop := Claim7.holds Tryd.pinned (.plain (OpenSpec.upto relateSelfSpec)) relateSelfUptoCard

/-- THE SECOND FORM's CARD OF 'ravelinlaw10.RelateLeast'. -/
def relateLeastUptoCard : Claim7 := { stood := { row := relateLeastUptoRow, standIns := [], harness := (true, "bd3ba541fbe44dbb7e7458810b8d6e0fdb9fa51a637d8f2948b14c71fc1e7895"), looks := true }, kinds := [], alts := [], laidByText := true, laidKinds := [.data, .data], laidTests := true, laidLooks := .later }
def RelateLeastUptoCardSaid : Prop := Claim7.holds Tryd.pinned (.plain (OpenSpec.upto relateLeastSpec)) relateLeastUptoCard

/-- THE SECOND FORM's CARD OF 'ravelinlaw10.RelateJoins'. -/
def relateJoinsUptoCard : Claim7 := { stood := { row := relateJoinsUptoRow, standIns := [], harness := (true, "bd3ba541fbe44dbb7e7458810b8d6e0fdb9fa51a637d8f2948b14c71fc1e7895"), looks := true }, kinds := [], alts := [], laidByText := true, laidKinds := [.data, .data], laidTests := true, laidLooks := .later }
def RelateJoinsUptoCardSaid : Prop := Claim7.holds Tryd.pinned (.plain (OpenSpec.upto relateJoinsSpec)) relateJoinsUptoCard

/-- THE SECOND FORM's CARD OF 'ravelinlaw10.RelateVague'. -/
def relateVagueUptoCard : Claim7 := { stood := { row := relateVagueUptoRow, standIns := [], harness := (true, "bd3ba541fbe44dbb7e7458810b8d6e0fdb9fa51a637d8f2948b14c71fc1e7895"), looks := true }, kinds := [], alts := [], laidByText := true, laidKinds := [.data, .data], laidTests := true, laidLooks := .later }
def RelateVagueUptoCardSaid : Prop := Claim7.holds Tryd.pinned (.plain (OpenSpec.upto relateVagueSpec)) relateVagueUptoCard
end Rows
end Go.Proofs.YthcdbmbimdkcfaaDoor
