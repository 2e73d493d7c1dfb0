/-
  NARROWER THAN 'FOR EVERY INPUT', by the rows' own cells (each row's printed sentence says how): RelateSubs: loops, laid · RelateEases: loops, laid · RelatePrecise: loops, laid · RelateMeets: loops, laid · RelateSides: loops, laid · RelateChains: loops, laid · RelateSelf: loops, laid · RelateLeast: loops, laid · RelateJoins: loops, laid · RelateVague: loops, laid.
  DERIVED. THE GIVEN ROWS OF THIS SEAT. 10 by the template 'for every input the law returns true; each argument reads behind the call as it read before'; 0 by the template 'total and deterministic' (their statements: YthcdbmbimdkcfaaDoorTotals.lean).
  GIVEN WITH THE SEED: the statements are not yours to turn. If you find one false, say at which input.
  Laid BY PROGRAM, IN A SANDBOX (cutbox-rows.mjs): the forced cells as the released guide's own fill.sh prints them over the translation d7e8d0773cc1e791… (all of the seat's roots in one cut). By AI agents, Wed Nov 11 2026. No macro, syntax, notation, axiom, sorry.
-/
import Derived.Test.YthcdbmbimdkcfaaDoorChecked
import GoSem.Claim
import GoSem.ClaimJoined
import GoSem.ClaimMapViews
import Derived.JoinedTies
import Derived.KernelRfl
namespace Go.Proofs.YthcdbmbimdkcfaaDoor
/- THE CELL 'sum', in the pinned program and in every row, IS THE sha256 OF THE DUMP (.gsa) THAT YthcdbmbimdkcfaaDoorProg.lean LOADS. Nothing in Lean hashes anything: it is a label: what it is worth is what the hold of that sum in a sandbox is worth. -/
noncomputable def Tryd.pinned : Pinned := { name := "ythcdbmbimdkcfaadoor", sum := "d7e8d0773cc1e7912694fd4435c1253abc9cba011a111a145a4ebcb2d7422cbc", checked := Tryd.checked }
namespace Rows
def none {H : Type} : Left H := { results := [], args := [] }

/- WHAT THE LISTED PACKAGE-LEVEL VARIABLES READ AS WHEN THE CALL BEGINS. Each datum BY PROGRAM (the guide's laid-datum.mjs) off the statement by which the dump's own 'gosem.cut.vars' lays the variable. In a bare row this is a premise. The card (YthcdbmbimdkcfaaDoorCards.lean) ties it to the program's text. -/
def laid_ravelin_lex_words {H : Type} : DataW H := .agg [.lit (.string [97, 110, 100]), .lit (.string [98, 114, 101, 97, 107]), .lit (.string [99, 104, 97, 110, 110, 101, 108]), .lit (.string [100, 111]), .lit (.string [101, 108, 115, 101]), .lit (.string [101, 108, 115, 101, 105, 102]), .lit (.string [101, 110, 100]), .lit (.string [102, 97, 108, 115, 101]), .lit (.string [102, 117, 110, 99, 116, 105, 111, 110]), .lit (.string [105, 102]), .lit (.string [108, 111, 99, 97, 108]), .lit (.string [110, 105, 108]), .lit (.string [110, 111, 116]), .lit (.string [111, 114]), .lit (.string [114, 101, 116, 117, 114, 110]), .lit (.string [116, 104, 101, 110]), .lit (.string [116, 114, 117, 101]), .lit (.string [119, 104, 105, 108, 101])]
def laid_ravelin_types_kinds {H : Type} : DataW H := .agg [.lit (.int .i64 127), .lit (.int .i64 1), .lit (.int .i64 2), .lit (.int .i64 4), .lit (.int .i64 8), .lit (.int .i64 16), .lit (.int .i64 64)]

/-- 'ravelinlaw10.RelateSubs': WHATEVER THE INPUT: true; the input reads as it did. -/
def relateSubsSpec : ChangeSpec := { name := "relateSubs", fn := fun _ => fun
  | [d1, d2] => { results := [.lit (.bool true)], args := [d1, d2] }
  | _ => none }
def relateSubsRow : OpenClaim := { program := "ythcdbmbimdkcfaadoor", sum := "d7e8d0773cc1e7912694fd4435c1253abc9cba011a111a145a4ebcb2d7422cbc", func := "ravelin/ravelinlaw10.RelateSubs", spec := "relateSubs", unfollowed := true, recurses := true, named := ["ravelin/lex.words", "ravelin/types.kinds"], loops := true, plainKeys := false, apart := false, laid := [("ravelin/lex.words", laid_ravelin_lex_words), ("ravelin/types.kinds", laid_ravelin_types_kinds)] }
def RelateSubsSaid : Prop := relateSubsRow.holds Tryd.pinned (OpenSpec.ofChange relateSubsSpec)

/-- ITS FALSE NEIGHBOUR: 'it returns false'. Refute it at one input. -/
def relateSubsWrong : ChangeSpec := { name := "relateSubs", fn := fun _ => fun
  | [d1, d2] => { results := [.lit (.bool false)], args := [d1, d2] }
  | _ => none }
def RelateSubsWrongFalsely : Prop := relateSubsRow.holds Tryd.pinned (OpenSpec.ofChange relateSubsWrong)

/-- 'ravelinlaw10.RelateEases': WHATEVER THE INPUT: true; the input reads as it did. -/
def relateEasesSpec : ChangeSpec := { name := "relateEases", fn := fun _ => fun
  | [d1, d2] => { results := [.lit (.bool true)], args := [d1, d2] }
  | _ => none }
def relateEasesRow : OpenClaim := { program := "ythcdbmbimdkcfaadoor", sum := "d7e8d0773cc1e7912694fd4435c1253abc9cba011a111a145a4ebcb2d7422cbc", func := "ravelin/ravelinlaw10.RelateEases", spec := "relateEases", unfollowed := true, recurses := true, named := ["ravelin/lex.words", "ravelin/types.kinds"], loops := true, plainKeys := false, apart := false, laid := [("ravelin/lex.words", laid_ravelin_lex_words), ("ravelin/types.kinds", laid_ravelin_types_kinds)] }
def RelateEasesSaid : Prop := relateEasesRow.holds Tryd.pinned (OpenSpec.ofChange relateEasesSpec)

/-- ITS FALSE NEIGHBOUR: 'it returns false'. Refute it at one input. -/
def relateEasesWrong : ChangeSpec := { name := "relateEases", fn := fun _ => fun
  | [d1, d2] => { results := [.lit (.bool false)], args := [d1, d2] }
  | _ => none }
def RelateEasesWrongFalsely : Prop := relateEasesRow.holds Tryd.pinned (OpenSpec.ofChange relateEasesWrong)

/-- 'ravelinlaw10.RelatePrecise': WHATEVER THE INPUT: true; the input reads as it did. -/
def relatePreciseSpec : ChangeSpec := { name := "relatePrecise", fn := fun _ => fun
  | [d1, d2] => { results := [.lit (.bool true)], args := [d1, d2] }
  | _ => none }
def relatePreciseRow : OpenClaim := { program := "ythcdbmbimdkcfaadoor", sum := "d7e8d0773cc1e7912694fd4435c1253abc9cba011a111a145a4ebcb2d7422cbc", func := "ravelin/ravelinlaw10.RelatePrecise", spec := "relatePrecise", unfollowed := true, recurses := true, named := ["ravelin/lex.words", "ravelin/types.kinds"], loops := true, plainKeys := false, apart := false, laid := [("ravelin/lex.words", laid_ravelin_lex_words), ("ravelin/types.kinds", laid_ravelin_types_kinds)] }
def RelatePreciseSaid : Prop := relatePreciseRow.holds Tryd.pinned (OpenSpec.ofChange relatePreciseSpec)

/-- ITS FALSE NEIGHBOUR: 'it returns false'. Refute it at one input. -/
def relatePreciseWrong : ChangeSpec := { name := "relatePrecise", fn := fun _ => fun
  | [d1, d2] => { results := [.lit (.bool false)], args := [d1, d2] }
  | _ => none }
def RelatePreciseWrongFalsely : Prop := relatePreciseRow.holds Tryd.pinned (OpenSpec.ofChange relatePreciseWrong)

/-- 'ravelinlaw10.RelateMeets': WHATEVER THE INPUT: true; the input reads as it did. -/
def relateMeetsSpec : ChangeSpec := { name := "relateMeets", fn := fun _ => fun
  | [d1, d2] => { results := [.lit (.bool true)], args := [d1, d2] }
  | _ => none }
def relateMeetsRow : OpenClaim := { program := "ythcdbmbimdkcfaadoor", sum := "d7e8d0773cc1e7912694fd4435c1253abc9cba011a111a145a4ebcb2d7422cbc", func := "ravelin/ravelinlaw10.RelateMeets", spec := "relateMeets", unfollowed := true, recurses := true, named := ["ravelin/lex.words", "ravelin/types.kinds"], loops := true, plainKeys := false, apart := false, laid := [("ravelin/lex.words", laid_ravelin_lex_words), ("ravelin/types.kinds", laid_ravelin_types_kinds)] }
def RelateMeetsSaid : Prop := relateMeetsRow.holds Tryd.pinned (OpenSpec.ofChange relateMeetsSpec)

/-- ITS FALSE NEIGHBOUR: 'it returns false'. Refute it at one input. -/
def relateMeetsWrong : ChangeSpec := { name := "relateMeets", fn := fun _ => fun
  | [d1, d2] => { results := [.lit (.bool false)], args := [d1, d2] }
  | _ => none }
def RelateMeetsWrongFalsely : Prop := relateMeetsRow.holds Tryd.pinned (OpenSpec.ofChange relateMeetsWrong)

/-- 'ravelinlaw10.RelateSides': WHATEVER THE INPUT: true; the input reads as it did. -/
def relateSidesSpec : ChangeSpec := { name := "relateSides", fn := fun _ => fun
  | [d1, d2] => { results := [.lit (.bool true)], args := [d1, d2] }
  | _ => none }
def relateSidesRow : OpenClaim := { program := "ythcdbmbimdkcfaadoor", sum := "d7e8d0773cc1e7912694fd4435c1253abc9cba011a111a145a4ebcb2d7422cbc", func := "ravelin/ravelinlaw10.RelateSides", spec := "relateSides", unfollowed := true, recurses := true, named := ["ravelin/lex.words", "ravelin/types.kinds"], loops := true, plainKeys := false, apart := false, laid := [("ravelin/lex.words", laid_ravelin_lex_words), ("ravelin/types.kinds", laid_ravelin_types_kinds)] }
def RelateSidesSaid : Prop := relateSidesRow.holds Tryd.pinned (OpenSpec.ofChange relateSidesSpec)

/-- ITS FALSE NEIGHBOUR: 'it returns false'. Refute it at one input. -/
def relateSidesWrong : ChangeSpec := { name := "relateSides", fn := fun _ => fun
  | [d1, d2] => { results := [.lit (.bool false)], args := [d1, d2] }
  | _ => none }
def RelateSidesWrongFalsely : Prop := relateSidesRow.holds Tryd.pinned (OpenSpec.ofChange relateSidesWrong)

/-- 'ravelinlaw10.RelateChains': WHATEVER THE INPUT: true; the input reads as it did. -/
def relateChainsSpec : ChangeSpec := { name := "relateChains", fn := fun _ => fun
  | [d1, d2, d3] => { results := [.lit (.bool true)], args := [d1, d2, d3] }
  | _ => none }
def relateChainsRow : OpenClaim := { program := "ythcdbmbimdkcfaadoor", sum := "d7e8d0773cc1e7912694fd4435c1253abc9cba011a111a145a4ebcb2d7422cbc", func := "ravelin/ravelinlaw10.RelateChains", spec := "relateChains", unfollowed := true, recurses := true, named := ["ravelin/lex.words", "ravelin/types.kinds"], loops := true, plainKeys := false, apart := false, laid := [("ravelin/lex.words", laid_ravelin_lex_words), ("ravelin/types.kinds", laid_ravelin_types_kinds)] }
def RelateChainsSaid : Prop := relateChainsRow.holds Tryd.pinned (OpenSpec.ofChange relateChainsSpec)

/-- ITS FALSE NEIGHBOUR: 'it returns false'. Refute it at one input. -/
def relateChainsWrong : ChangeSpec := { name := "relateChains", fn := fun _ => fun
  | [d1, d2, d3] => { results := [.lit (.bool false)], args := [d1, d2, d3] }
  | _ => none }
def RelateChainsWrongFalsely : Prop := relateChainsRow.holds Tryd.pinned (OpenSpec.ofChange relateChainsWrong)

/-- 'ravelinlaw10.RelateSelf': WHATEVER THE INPUT: true; the input reads as it did. -/
def relateSelfSpec : ChangeSpec := { name := "relateSelf", fn := fun _ => fun
  | [d] => { results := [.lit (.bool true)], args := [d] }
  | _ => none }
def relateSelfRow : OpenClaim := { program := "ythcdbmbimdkcfaadoor", sum := "d7e8d0773cc1e7912694fd4435c1253abc9cba011a111a145a4ebcb2d7422cbc", func := "ravelin/ravelinlaw10.RelateSelf", spec := "relateSelf", unfollowed := true, recurses := true, named := ["ravelin/lex.words", "ravelin/types.kinds"], loops := true, plainKeys := false, apart := false, laid := [("ravelin/lex.words", laid_ravelin_lex_words), ("ravelin/types.kinds", laid_ravelin_types_kinds)] }
def RelateSelfSaid : Prop := relateSelfRow.holds Tryd.pinned (OpenSpec.ofChange relateSelfSpec)

/-- ITS FALSE NEIGHBOUR: 'it returns false'. Refute it at one input. -/
def relateSelfWrong : ChangeSpec := { name := "relateSelf", fn := fun _ => fun
  | [d] => { results := [.lit (.bool false)], args := [d] }
  | _ => none }
def RelateSelfWrongFalsely : Prop := relateSelfRow.holds Tryd.pinned (OpenSpec.ofChange relateSelfWrong)

/-- 'ravelinlaw10.RelateLeast': WHATEVER THE INPUT: true; the input reads as it did. -/
def relateLeastSpec : ChangeSpec := { name := "relateLeast", fn := fun _ => fun
  | [d1, d2, d3] => { results := [.lit (.bool true)], args := [d1, d2, d3] }
  | _ => none }
def relateLeastRow : OpenClaim := { program := "ythcdbmbimdkcfaadoor", sum := "d7e8d0773cc1e7912694fd4435c1253abc9cba011a111a145a4ebcb2d7422cbc", func := "ravelin/ravelinlaw10.RelateLeast", spec := "relateLeast", unfollowed := true, recurses := true, named := ["ravelin/lex.words", "ravelin/types.kinds"], loops := true, plainKeys := false, apart := false, laid := [("ravelin/lex.words", laid_ravelin_lex_words), ("ravelin/types.kinds", laid_ravelin_types_kinds)] }
def RelateLeastSaid : Prop := relateLeastRow.holds Tryd.pinned (OpenSpec.ofChange relateLeastSpec)

/-- ITS FALSE NEIGHBOUR: 'it returns false'. Refute it at one input. -/
def relateLeastWrong : ChangeSpec := { name := "relateLeast", fn := fun _ => fun
  | [d1, d2, d3] => { results := [.lit (.bool false)], args := [d1, d2, d3] }
  | _ => none }
def RelateLeastWrongFalsely : Prop := relateLeastRow.holds Tryd.pinned (OpenSpec.ofChange relateLeastWrong)

/-- 'ravelinlaw10.RelateJoins': WHATEVER THE INPUT: true; the input reads as it did. -/
def relateJoinsSpec : ChangeSpec := { name := "relateJoins", fn := fun _ => fun
  | [d1, d2] => { results := [.lit (.bool true)], args := [d1, d2] }
  | _ => none }
def relateJoinsRow : OpenClaim := { program := "ythcdbmbimdkcfaadoor", sum := "d7e8d0773cc1e7912694fd4435c1253abc9cba011a111a145a4ebcb2d7422cbc", func := "ravelin/ravelinlaw10.RelateJoins", spec := "relateJoins", unfollowed := true, recurses := true, named := ["ravelin/lex.words", "ravelin/types.kinds"], loops := true, plainKeys := false, apart := false, laid := [("ravelin/lex.words", laid_ravelin_lex_words), ("ravelin/types.kinds", laid_ravelin_types_kinds)] }
def RelateJoinsSaid : Prop := relateJoinsRow.holds Tryd.pinned (OpenSpec.ofChange relateJoinsSpec)

/-- ITS FALSE NEIGHBOUR: 'it returns false'. Refute it at one input. -/
def relateJoinsWrong : ChangeSpec := { name := "relateJoins", fn := fun _ => fun
  | [d1, d2] => { results := [.lit (.bool false)], args := [d1, d2] }
  | _ => none }
def RelateJoinsWrongFalsely : Prop := relateJoinsRow.holds Tryd.pinned (OpenSpec.ofChange relateJoinsWrong)

/-- 'ravelinlaw10.RelateVague': WHATEVER THE INPUT: true; the input reads as it did. -/
def relateVagueSpec : ChangeSpec := { name := "relateVague", fn := fun _ => fun
  | [d1, d2] => { results := [.lit (.bool true)], args := [d1, d2] }
  | _ => none }
def relateVagueRow : OpenClaim := { program := "ythcdbmbimdkcfaadoor", sum := "d7e8d0773cc1e7912694fd4435c1253abc9cba011a111a145a4ebcb2d7422cbc", func := "ravelin/ravelinlaw10.RelateVague", spec := "relateVague", unfollowed := true, recurses := true, named := ["ravelin/lex.words", "ravelin/types.kinds"], loops := true, plainKeys := false, apart := false, laid := [("ravelin/lex.words", laid_ravelin_lex_words), ("ravelin/types.kinds", laid_ravelin_types_kinds)] }
def RelateVagueSaid : Prop := relateVagueRow.holds Tryd.pinned (OpenSpec.ofChange relateVagueSpec)

/-- ITS FALSE NEIGHBOUR: 'it returns false'. Refute it at one input. -/
def relateVagueWrong : ChangeSpec := { name := "relateVague", fn := fun _ => fun
  | [d1, d2] => { results := [.lit (.bool false)], args := [d1, d2] }
  | _ => none }
def RelateVagueWrongFalsely : Prop := relateVagueRow.holds Tryd.pinned (OpenSpec.ofChange relateVagueWrong)

/- THE SECOND FORM. 'bulk': how many values and letters a reading holds, each counted each time it is reached (what is shared counts as often as it is met; a slice's spare places count too). A statement '..UptoSaid' is the law's where the arguments, and the package variables that the reading takes, are together of bulk at most 1048576: NARROWER than '..Said'. Prove '..Said' where nothing that the law and all that it calls make is longer than what came in: it says more and counts as full. Else prove '..UptoSaid'. A law counts once. -/
mutual
def uptoBulk {H : Type} : DataW H → Nat
  | .lit (.string bytes) => bytes.length + 1
  | .lit _ => 1
  | .nil => 1
  | .ptr d => uptoBulk d + 1
  | .slice elems spare => uptoBulkAll elems + uptoBulkAll spare + 1
  | .agg parts => uptoBulkAll parts + 1
  | .iface _ d => uptoBulk d + 1
  | .map entries => uptoBulkEntries entries + 1
  | .held _ => 1
def uptoBulkAll {H : Type} : List (DataW H) → Nat
  | [] => 0
  | d :: r => uptoBulk d + uptoBulkAll r
def uptoBulkEntries {H : Type} : List (Lit × DataW H) → Nat
  | [] => 0
  | x :: r => uptoBulkEntry x + uptoBulkEntries r
def uptoBulkEntry {H : Type} : Lit × DataW H → Nat
  | (.string bytes, d) => bytes.length + uptoBulk d + 1
  | (_, d) => uptoBulk d + 1
 end
def uptoSmall : (H : Type) → List (DataW H) → Bool := fun _ ds => decide (uptoBulkAll ds ≤ 1048576)
def OpenSpec.upto (s : _root_.Go.ChangeSpec) : _root_.Go.OpenSpec := { _root_.Go.OpenSpec.ofChange s with cond := some uptoSmall }

/-- 'ravelinlaw10.RelateSubs', WHERE WHAT IT READS IS OF BULK AT MOST 1048576: true; the input reads as it did. -/
def relateSubsUptoRow : OpenClaim := { program := "ythcdbmbimdkcfaadoor", sum := "d7e8d0773cc1e7912694fd4435c1253abc9cba011a111a145a4ebcb2d7422cbc", func := "ravelin/ravelinlaw10.RelateSubs", spec := "relateSubs", unfollowed := true, recurses := true, named := ["ravelin/lex.words", "ravelin/types.kinds"], loops := true, plainKeys := false, apart := false, laid := [("ravelin/lex.words", laid_ravelin_lex_words), ("ravelin/types.kinds", laid_ravelin_types_kinds)], narrowed := true }
def RelateSubsUptoSaid : Prop := relateSubsUptoRow.holds Tryd.pinned (OpenSpec.upto relateSubsSpec)

/-- 'ravelinlaw10.RelateEases', WHERE WHAT IT READS IS OF BULK AT MOST 1048576: true; the input reads as it did. -/
def relateEasesUptoRow : OpenClaim := { program := "ythcdbmbimdkcfaadoor", sum := "d7e8d0773cc1e7912694fd4435c1253abc9cba011a111a145a4ebcb2d7422cbc", func := "ravelin/ravelinlaw10.RelateEases", spec := "relateEases", unfollowed := true, recurses := true, named := ["ravelin/lex.words", "ravelin/types.kinds"], loops := true, plainKeys := false, apart := false, laid := [("ravelin/lex.words", laid_ravelin_lex_words), ("ravelin/types.kinds", laid_ravelin_types_kinds)], narrowed := true }
def RelateEasesUptoSaid : Prop := relateEasesUptoRow.holds Tryd.pinned (OpenSpec.upto relateEasesSpec)

/-- 'ravelinlaw10.RelatePrecise', WHERE WHAT IT READS IS OF BULK AT MOST 1048576: true; the input reads as it did. -/
def relatePreciseUptoRow : OpenClaim := { program := "ythcdbmbimdkcfaadoor", sum := "d7e8d0773cc1e7912694fd4435c1253abc9cba011a111a145a4ebcb2d7422cbc", func := "ravelin/ravelinlaw10.RelatePrecise", spec := "relatePrecise", unfollowed := true, recurses := true, named := ["ravelin/lex.words", "ravelin/types.kinds"], loops := true, plainKeys := false, apart := false, laid := [("ravelin/lex.words", laid_ravelin_lex_words), ("ravelin/types.kinds", laid_ravelin_types_kinds)], narrowed := true }
def RelatePreciseUptoSaid : Prop := relatePreciseUptoRow.holds Tryd.pinned (OpenSpec.upto relatePreciseSpec)

/-- 'ravelinlaw10.RelateMeets', WHERE WHAT IT READS IS OF BULK AT MOST 1048576: true; the input reads as it did. -/
def relateMeetsUptoRow : OpenClaim := { program := "ythcdbmbimdkcfaadoor", sum := "d7e8d0773cc1e7912694fd4435c1253abc9cba011a111a145a4ebcb2d7422cbc", func := "ravelin/ravelinlaw10.RelateMeets", spec := "relateMeets", unfollowed := true, recurses := true, named := ["ravelin/lex.words", "ravelin/types.kinds"], loops := true, plainKeys := false, apart := false, laid := [("ravelin/lex.words", laid_ravelin_lex_words), ("ravelin/types.kinds", laid_ravelin_types_kinds)], narrowed := true }
def RelateMeetsUptoSaid : Prop := relateMeetsUptoRow.holds Tryd.pinned (OpenSpec.upto relateMeetsSpec)

/-- 'ravelinlaw10.RelateSides', WHERE WHAT IT READS IS OF BULK AT MOST 1048576: true; the input reads as it did. -/
def relateSidesUptoRow : OpenClaim := { program := "ythcdbmbimdkcfaadoor", sum := "d7e8d0773cc1e7912694fd4435c1253abc9cba011a111a145a4ebcb2d7422cbc", func := "ravelin/ravelinlaw10.RelateSides", spec := "relateSides", unfollowed := true, recurses := true, named := ["ravelin/lex.words", "ravelin/types.kinds"], loops := true, plainKeys := false, apart := false, laid := [("ravelin/lex.words", laid_ravelin_lex_words), ("ravelin/types.kinds", laid_ravelin_types_kinds)], narrowed := true }
def RelateSidesUptoSaid : Prop := relateSidesUptoRow.holds Tryd.pinned (OpenSpec.upto relateSidesSpec)

/-- 'ravelinlaw10.RelateChains', WHERE WHAT IT READS IS OF BULK AT MOST 1048576: true; the input reads as it did. -/
def relateChainsUptoRow : OpenClaim := { program := "ythcdbmbimdkcfaadoor", sum := "d7e8d0773cc1e7912694fd4435c1253abc9cba011a111a145a4ebcb2d7422cbc", func := "ravelin/ravelinlaw10.RelateChains", spec := "relateChains", unfollowed := true, recurses := true, named := ["ravelin/lex.words", "ravelin/types.kinds"], loops := true, plainKeys := false, apart := false, laid := [("ravelin/lex.words", laid_ravelin_lex_words), ("ravelin/types.kinds", laid_ravelin_types_kinds)], narrowed := true }
def RelateChainsUptoSaid : Prop := relateChainsUptoRow.holds Tryd.pinned (OpenSpec.upto relateChainsSpec)

/-- 'ravelinlaw10.RelateSelf', WHERE WHAT IT READS IS OF BULK AT MOST 1048576: true; the input reads as it did. -/
def relateSelfUptoRow : OpenClaim := { program := "ythcdbmbimdkcfaadoor", sum := "d7e8d0773cc1e7912694fd4435c1253abc9cba011a111a145a4ebcb2d7422cbc", func := "ravelin/ravelinlaw10.RelateSelf", spec := "relateSelf", unfollowed := true, recurses := true, named := ["ravelin/lex.words", "ravelin/types.kinds"], loops := true, plainKeys := false, apart := false, laid := [("ravelin/lex.words", laid_ravelin_lex_words), ("ravelin/types.kinds", laid_ravelin_types_kinds)], narrowed := true }
def RelateSelfUptoSaid : Prop := relateSelfUptoRow.holds Tryd.pinned (OpenSpec.upto relateSelfSpec)

/-- 'ravelinlaw10.RelateLeast', WHERE WHAT IT READS IS OF BULK AT MOST 1048576: true; the input reads as it did. -/
def relateLeastUptoRow : OpenClaim := { program := "ythcdbmbimdkcfaadoor", sum := "d7e8d0773cc1e7912694fd4435c1253abc9cba011a111a145a4ebcb2d7422cbc", func := "ravelin/ravelinlaw10.RelateLeast", spec := "relateLeast", unfollowed := true, recurses := true, named := ["ravelin/lex.words", "ravelin/types.kinds"], loops := true, plainKeys := false, apart := false, laid := [("ravelin/lex.words", laid_ravelin_lex_words), ("ravelin/types.kinds", laid_ravelin_types_kinds)], narrowed := true }
def RelateLeastUptoSaid : Prop := relateLeastUptoRow.holds Tryd.pinned (OpenSpec.upto relateLeastSpec)

/-- 'ravelinlaw10.RelateJoins', WHERE WHAT IT READS IS OF BULK AT MOST 1048576: true; the input reads as it did. -/
def relateJoinsUptoRow : OpenClaim := { program := "ythcdbmbimdkcfaadoor", sum := "d7e8d0773cc1e7912694fd4435c1253abc9cba011a111a145a4ebcb2d7422cbc", func := "ravelin/ravelinlaw10.RelateJoins", spec := "relateJoins", unfollowed := true, recurses := true, named := ["ravelin/lex.words", "ravelin/types.kinds"], loops := true, plainKeys := false, apart := false, laid := [("ravelin/lex.words", laid_ravelin_lex_words), ("ravelin/types.kinds", laid_ravelin_types_kinds)], narrowed := true }
def RelateJoinsUptoSaid : Prop := relateJoinsUptoRow.holds Tryd.pinned (OpenSpec.upto relateJoinsSpec)

/-- 'ravelinlaw10.RelateVague', WHERE WHAT IT READS IS OF BULK AT MOST 1048576: true; the input reads as it did. -/
def relateVagueUptoRow : OpenClaim := { program := "ythcdbmbimdkcfaadoor", sum := "d7e8d0773cc1e7912694fd4435c1253abc9cba011a111a145a4ebcb2d7422cbc", func := "ravelin/ravelinlaw10.RelateVague", spec := "relateVague", unfollowed := true, recurses := true, named := ["ravelin/lex.words", "ravelin/types.kinds"], loops := true, plainKeys := false, apart := false, laid := [("ravelin/lex.words", laid_ravelin_lex_words), ("ravelin/types.kinds", laid_ravelin_types_kinds)], narrowed := true }
def RelateVagueUptoSaid : Prop := relateVagueUptoRow.holds Tryd.pinned (OpenSpec.upto relateVagueSpec)

end Rows
end Go.Proofs.YthcdbmbimdkcfaaDoor
