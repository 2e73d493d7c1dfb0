/-
  DERIVED. GIVEN WITH THE SEED: THE CARDS: each row of YtajhkogknpmnbaaDoorRows.lean that lists a variable, with what it lists TIED to the program's text (the seventh form; the later family's looks); each row that meets fmt, with fmt's text TOLD by the authors' own Lean function (tested against real Go, not proved from fmt's source: count such statements apart). THE CARD IS WHAT COUNTS. Prove the row's statement (the work); the ties are given (YtajhkogknpmnbaaDoorTie.lean); close each card by the builder's one call (the guide's Derived/Test/ToyasCard.lean, 'card_holds'). Laid BY PROGRAM, IN A SANDBOX (cutbox-door.mjs). By AI agents, Wed Nov 11 2026. No macro, syntax, notation, axiom, sorry.
-/
import Derived.Test.YtajhkogknpmnbaaDoorRows
import GoSem.ClaimSeven
namespace Go.Proofs.YtajhkogknpmnbaaDoor
namespace Rows

/-- THE TIED CARD OF 'ravelinlaw18.FlowNext'. -/
def flowNextCard : Claim7 := { stood := { row := flowNextRow, standIns := [], harness := (true, "03846e3f7cb79ecf3a0fdec4a6f37cb6eb1651ffd50ec69e73978f37e887c1aa"), looks := false }, kinds := [], alts := [], laidByText := true, laidKinds := [.data, .data, .data], laidTests := true, laidLooks := .later }
def FlowNextCardSaid : Prop := Claim7.holds Tryd.pinned (.plain (OpenSpec.ofChange flowNextSpec)) flowNextCard

/-- THE TIED CARD OF 'ravelinlaw18.FlowPosts'. -/
def flowPostsCard : Claim7 := { stood := { row := flowPostsRow, standIns := [], harness := (true, "03846e3f7cb79ecf3a0fdec4a6f37cb6eb1651ffd50ec69e73978f37e887c1aa"), looks := false }, kinds := [], alts := [], laidByText := true, laidKinds := [.data, .data, .data], laidTests := true, laidLooks := .later }
def FlowPostsCardSaid : Prop := Claim7.holds Tryd.pinned (.plain (OpenSpec.ofChange flowPostsSpec)) flowPostsCard

/-- THE TIED CARD OF 'ravelinlaw18.FlowReach'. -/
def flowReachCard : Claim7 := { stood := { row := flowReachRow, standIns := [], harness := (true, "03846e3f7cb79ecf3a0fdec4a6f37cb6eb1651ffd50ec69e73978f37e887c1aa"), looks := false }, kinds := [], alts := [], laidByText := true, laidKinds := [.data, .data, .data], laidTests := true, laidLooks := .later }
def FlowReachCardSaid : Prop := Claim7.holds Tryd.pinned (.plain (OpenSpec.ofChange flowReachSpec)) flowReachCard

/-- THE TIED CARD OF 'ravelinlaw18.FlowWrites'. -/
def flowWritesCard : Claim7 := { stood := { row := flowWritesRow, standIns := [], harness := (true, "03846e3f7cb79ecf3a0fdec4a6f37cb6eb1651ffd50ec69e73978f37e887c1aa"), looks := false }, kinds := [], alts := [], laidByText := true, laidKinds := [.data, .data, .data], laidTests := true, laidLooks := .later }
def FlowWritesCardSaid : Prop := Claim7.holds Tryd.pinned (.plain (OpenSpec.ofChange flowWritesSpec)) flowWritesCard

/-- THE TIED CARD OF 'ravelinlaw18.FlowOne'. -/
def flowOneCard : Claim7 := { stood := { row := flowOneRow, standIns := [], harness := (true, "03846e3f7cb79ecf3a0fdec4a6f37cb6eb1651ffd50ec69e73978f37e887c1aa"), looks := false }, kinds := [], alts := [], laidByText := true, laidKinds := [.data, .data, .data], laidTests := true, laidLooks := .later }
def FlowOneCardSaid : Prop := Claim7.holds Tryd.pinned (.plain (OpenSpec.ofChange flowOneSpec)) flowOneCard

/-- THE TIED CARD OF 'ravelinlaw18.FlowMeets'. -/
def flowMeetsCard : Claim7 := { stood := { row := flowMeetsRow, standIns := [], harness := (true, "03846e3f7cb79ecf3a0fdec4a6f37cb6eb1651ffd50ec69e73978f37e887c1aa"), looks := false }, kinds := [], alts := [], laidByText := true, laidKinds := [.data, .data, .data], laidTests := true, laidLooks := .later }
def FlowMeetsCardSaid : Prop := Claim7.holds Tryd.pinned (.plain (OpenSpec.ofChange flowMeetsSpec)) flowMeetsCard

/-- THE SECOND FORM's CARD OF 'ravelinlaw18.FlowNext'. -/
def flowNextUptoCard : Claim7 := { stood := { row := flowNextUptoRow, standIns := [], harness := (true, "03846e3f7cb79ecf3a0fdec4a6f37cb6eb1651ffd50ec69e73978f37e887c1aa"), looks := false }, kinds := [], alts := [], laidByText := true, laidKinds := [.data, .data, .data], laidTests := true, laidLooks := .later }
def FlowNextUptoCardSaid : Prop := Claim7.holds Tryd.pinned (.plain (OpenSpec.upto flowNextSpec)) flowNextUptoCard

/-- THE SECOND FORM's CARD OF 'ravelinlaw18.FlowPosts'. -/
def flowPostsUptoCard : Claim7 := { stood := { row := flowPostsUptoRow, standIns := [], harness := (true, "03846e3f7cb79ecf3a0fdec4a6f37cb6eb1651ffd50ec69e73978f37e887c1aa"), looks := false }, kinds := [], alts := [], laidByText := true, laidKinds := [.data, .data, .data], laidTests := true, laidLooks := .later }
def FlowPostsUptoCardSaid : Prop := Claim7.holds Tryd.pinned (.plain (OpenSpec.upto flowPostsSpec)) flowPostsUptoCard

/-- THE SECOND FORM's CARD OF 'ravelinlaw18.FlowReach'. -/
def flowReachUptoCard : Claim7 := { stood := { row := flowReachUptoRow, standIns := [], harness := (true, "03846e3f7cb79ecf3a0fdec4a6f37cb6eb1651ffd50ec69e73978f37e887c1aa"), looks := false }, kinds := [], alts := [], laidByText := true, laidKinds := [.data, .data, .data], laidTests := true, laidLooks := .later }
def FlowReachUptoCardSaid : Prop := Claim7.holds Tryd.pinned (.plain (OpenSpec.upto flowReachSpec)) flowReachUptoCard

/-- THE SECOND FORM's CARD OF 'ravelinlaw18.FlowWrites'. -/
def flowWritesUptoCard : Claim7 := { stood := { row := flowWritesUptoRow, standIns := [], harness := (true, "03846e3f7cb79ecf3a0fdec4a6f37cb6eb1651ffd50ec69e73978f37e887c1aa"), looks := false }, kinds := [], alts := [], laidByText := true, laidKinds := [.data, .data, .data], laidTests := true, laidLooks := .later }
def FlowWritesUptoCardSaid : Prop := Claim7.holds Tryd.pinned (.plain (OpenSpec.upto flowWritesSpec)) flowWritesUptoCard

/-- THE SECOND FORM's CARD OF 'ravelinlaw18.FlowOne'. -/
def flowOneUptoCard : Claim7 := { stood := { row := flowOneUptoRow, standIns := [], harness := (true, "03846e3f7cb79ecf3a0fdec4a6f37cb6eb1651ffd50ec69e73978f37e887c1aa"), looks := false }, kinds := [], alts := [], laidByText := true, laidKinds := [.data, .data, .data], laidTests := true, laidLooks := .later }
def FlowOneUptoCardSaid : Prop := Claim7.holds Tryd.pinned (.plain (OpenSpec.upto flowOneSpec)) flowOneUptoCard

/-- THE SECOND FORM's CARD OF 'ravelinlaw18.FlowMeets'. -/
def flowMeetsUptoCard : Claim7 := { stood := { row := flowMeetsUptoRow, standIns := [], harness := (true, "03846e3f7cb79ecf3a0fdec4a6f37cb6eb1651ffd50ec69e73978f37e887c1aa"), looks := false }, kinds := [], alts := [], laidByText := true, laidKinds := [.data, .data, .data], laidTests := true, laidLooks := .later }
def FlowMeetsUptoCardSaid : Prop := Claim7.holds Tryd.pinned (.plain (OpenSpec.upto flowMeetsSpec)) flowMeetsUptoCard
end Rows
end Go.Proofs.YtajhkogknpmnbaaDoor
