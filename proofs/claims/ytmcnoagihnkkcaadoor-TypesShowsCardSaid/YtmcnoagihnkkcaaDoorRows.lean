/-
  NARROWER THAN 'FOR EVERY INPUT', by the rows' own cells (each row's printed sentence says how): TypesShows: loops, laid · TypesKinds: loops, laid · TypesUnions: laid.
  DERIVED. THE GIVEN ROWS OF THIS SEAT. 3 by the template 'for every input the law returns true; each argument reads behind the call as it read before'; 0 by the template 'total and deterministic' (their statements: YtmcnoagihnkkcaaDoorTotals.lean).
  GIVEN WITH THE SEED: the statements are not yours to turn. If you find one false, say at which input.
  Laid BY PROGRAM, IN A SANDBOX (cutbox-rows.mjs): the forced cells as the released guide's own fill.sh prints them over the translation 7e2efdf6f761cc36… (all of the seat's roots in one cut). By AI agents, Wed Nov 11 2026. No macro, syntax, notation, axiom, sorry.
-/
import Derived.Test.YtmcnoagihnkkcaaDoorChecked
import GoSem.Claim
import GoSem.ClaimJoined
import GoSem.ClaimMapViews
import Derived.JoinedTies
import Derived.KernelRfl
namespace Go.Proofs.YtmcnoagihnkkcaaDoor
/- THE CELL 'sum', in the pinned program and in every row, IS THE sha256 OF THE DUMP (.gsa) THAT YtmcnoagihnkkcaaDoorProg.lean LOADS. Nothing in Lean hashes anything: it is a label: what it is worth is what the hold of that sum in a sandbox is worth. -/
noncomputable def Tryd.pinned : Pinned := { name := "ytmcnoagihnkkcaadoor", sum := "7e2efdf6f761cc36392fd63bedb6b34cd6092b939fddb3bdb56319fc1f53200b", checked := Tryd.checked }
namespace Rows
def none {H : Type} : Left H := { results := [], args := [] }

/- WHAT THE LISTED PACKAGE-LEVEL VARIABLES READ AS WHEN THE CALL BEGINS. Each datum BY PROGRAM (the guide's laid-datum.mjs) off the statement by which the dump's own 'gosem.cut.vars' lays the variable. In a bare row this is a premise. The card (YtmcnoagihnkkcaaDoorCards.lean) ties it to the program's text. -/
def laid_ravelin_lex_words {H : Type} : DataW H := .agg [.lit (.string [97, 110, 100]), .lit (.string [98, 114, 101, 97, 107]), .lit (.string [99, 104, 97, 110, 110, 101, 108]), .lit (.string [100, 111]), .lit (.string [101, 108, 115, 101]), .lit (.string [101, 108, 115, 101, 105, 102]), .lit (.string [101, 110, 100]), .lit (.string [102, 97, 108, 115, 101]), .lit (.string [102, 117, 110, 99, 116, 105, 111, 110]), .lit (.string [105, 102]), .lit (.string [108, 111, 99, 97, 108]), .lit (.string [110, 105, 108]), .lit (.string [110, 111, 116]), .lit (.string [111, 114]), .lit (.string [114, 101, 116, 117, 114, 110]), .lit (.string [116, 104, 101, 110]), .lit (.string [116, 114, 117, 101]), .lit (.string [119, 104, 105, 108, 101])]
def laid_ravelin_types_names {H : Type} : DataW H := .agg [.lit (.string [97, 110, 121]), .lit (.string [110, 105, 108]), .lit (.string [98, 111, 111, 108]), .lit (.string [105, 110, 116]), .lit (.string [115, 116, 114, 105, 110, 103]), .lit (.string [116, 97, 98, 108, 101]), .lit (.string [116, 104, 114, 101, 97, 100])]
def laid_ravelin_types_kinds {H : Type} : DataW H := .agg [.lit (.int .i64 127), .lit (.int .i64 1), .lit (.int .i64 2), .lit (.int .i64 4), .lit (.int .i64 8), .lit (.int .i64 16), .lit (.int .i64 64)]

/-- 'ravelinlaw09.TypesShows': WHATEVER THE INPUT: true; the input reads as it did. -/
def typesShowsSpec : ChangeSpec := { name := "typesShows", fn := fun _ => fun
  | [d1, d2] => { results := [.lit (.bool true)], args := [d1, d2] }
  | _ => none }
def typesShowsRow : OpenClaim := { program := "ytmcnoagihnkkcaadoor", sum := "7e2efdf6f761cc36392fd63bedb6b34cd6092b939fddb3bdb56319fc1f53200b", func := "ravelin/ravelinlaw09.TypesShows", spec := "typesShows", inPlace := ["internal/abi.NoEscape", "internal/bytealg.MakeNoZero"], unfollowed := true, recurses := true, named := ["ravelin/types.kinds", "ravelin/lex.words", "ravelin/types.names"], loops := true, apart := false, laid := [("ravelin/lex.words", laid_ravelin_lex_words), ("ravelin/types.names", laid_ravelin_types_names), ("ravelin/types.kinds", laid_ravelin_types_kinds)] }
def TypesShowsSaid : Prop := typesShowsRow.holds Tryd.pinned (OpenSpec.ofChange typesShowsSpec)

/-- ITS FALSE NEIGHBOUR: 'it returns false'. Refute it at one input. -/
def typesShowsWrong : ChangeSpec := { name := "typesShows", fn := fun _ => fun
  | [d1, d2] => { results := [.lit (.bool false)], args := [d1, d2] }
  | _ => none }
def TypesShowsWrongFalsely : Prop := typesShowsRow.holds Tryd.pinned (OpenSpec.ofChange typesShowsWrong)

/-- 'ravelinlaw09.TypesKinds': WHATEVER THE INPUT: true; the input reads as it did. -/
def typesKindsSpec : ChangeSpec := { name := "typesKinds", fn := fun _ => fun
  | [d] => { results := [.lit (.bool true)], args := [d] }
  | _ => none }
def typesKindsRow : OpenClaim := { program := "ytmcnoagihnkkcaadoor", sum := "7e2efdf6f761cc36392fd63bedb6b34cd6092b939fddb3bdb56319fc1f53200b", func := "ravelin/ravelinlaw09.TypesKinds", spec := "typesKinds", inPlace := ["internal/abi.NoEscape", "internal/bytealg.MakeNoZero"], unfollowed := true, recurses := true, named := ["ravelin/types.kinds", "ravelin/lex.words", "ravelin/types.names"], loops := true, apart := false, laid := [("ravelin/lex.words", laid_ravelin_lex_words), ("ravelin/types.names", laid_ravelin_types_names), ("ravelin/types.kinds", laid_ravelin_types_kinds)] }
def TypesKindsSaid : Prop := typesKindsRow.holds Tryd.pinned (OpenSpec.ofChange typesKindsSpec)

/-- ITS FALSE NEIGHBOUR: 'it returns false'. Refute it at one input. -/
def typesKindsWrong : ChangeSpec := { name := "typesKinds", fn := fun _ => fun
  | [d] => { results := [.lit (.bool false)], args := [d] }
  | _ => none }
def TypesKindsWrongFalsely : Prop := typesKindsRow.holds Tryd.pinned (OpenSpec.ofChange typesKindsWrong)

/-- 'ravelinlaw09.TypesUnions': WHATEVER THE INPUT: true; the input reads as it did. -/
def typesUnionsSpec : ChangeSpec := { name := "typesUnions", fn := fun _ => fun
  | [d] => { results := [.lit (.bool true)], args := [d] }
  | _ => none }
def typesUnionsRow : OpenClaim := { program := "ytmcnoagihnkkcaadoor", sum := "7e2efdf6f761cc36392fd63bedb6b34cd6092b939fddb3bdb56319fc1f53200b", func := "ravelin/ravelinlaw09.TypesUnions", spec := "typesUnions", inPlace := ["internal/abi.NoEscape", "internal/bytealg.MakeNoZero"], unfollowed := true, recurses := true, named := ["ravelin/types.kinds", "ravelin/lex.words", "ravelin/types.names"], apart := false, laid := [("ravelin/lex.words", laid_ravelin_lex_words), ("ravelin/types.names", laid_ravelin_types_names), ("ravelin/types.kinds", laid_ravelin_types_kinds)] }
def TypesUnionsSaid : Prop := typesUnionsRow.holds Tryd.pinned (OpenSpec.ofChange typesUnionsSpec)

/-- ITS FALSE NEIGHBOUR: 'it returns false'. Refute it at one input. -/
def typesUnionsWrong : ChangeSpec := { name := "typesUnions", fn := fun _ => fun
  | [d] => { results := [.lit (.bool false)], args := [d] }
  | _ => none }
def TypesUnionsWrongFalsely : Prop := typesUnionsRow.holds Tryd.pinned (OpenSpec.ofChange typesUnionsWrong)

/- THE SECOND FORM. 'bulk': how many values and letters a reading holds, each counted each time it is reached (what is shared counts as often as it is met; a slice's spare places count too). A statement '..UptoSaid' is the law's where the arguments, and the package variables that the reading takes, are together of bulk at most 1048576: NARROWER than '..Said'. Prove '..Said' where nothing that the law and all that it calls make is longer than what came in: it says more and counts as full. Else prove '..UptoSaid'. A law counts once. -/
mutual
def uptoBulk {H : Type} : DataW H → Nat
  | .lit (.string bytes) => bytes.length + 1
  | .lit _ => 1
  | .nil => 1
  | .ptr d => uptoBulk d + 1
  | .slice elems spare => uptoBulkAll elems + uptoBulkAll spare + 1
  | .agg parts => uptoBulkAll parts + 1
  | .iface _ d => uptoBulk d + 1
  | .map entries => uptoBulkEntries entries + 1
  | .held _ => 1
def uptoBulkAll {H : Type} : List (DataW H) → Nat
  | [] => 0
  | d :: r => uptoBulk d + uptoBulkAll r
def uptoBulkEntries {H : Type} : List (Lit × DataW H) → Nat
  | [] => 0
  | x :: r => uptoBulkEntry x + uptoBulkEntries r
def uptoBulkEntry {H : Type} : Lit × DataW H → Nat
  | (.string bytes, d) => bytes.length + uptoBulk d + 1
  | (_, d) => uptoBulk d + 1
 end
def uptoSmall : (H : Type) → List (DataW H) → Bool := fun _ ds => decide (uptoBulkAll ds ≤ 1048576)
def OpenSpec.upto (s : _root_.Go.ChangeSpec) : _root_.Go.OpenSpec := { _root_.Go.OpenSpec.ofChange s with cond := some uptoSmall }

/-- 'ravelinlaw09.TypesShows', WHERE WHAT IT READS IS OF BULK AT MOST 1048576: true; the input reads as it did. -/
def typesShowsUptoRow : OpenClaim := { program := "ytmcnoagihnkkcaadoor", sum := "7e2efdf6f761cc36392fd63bedb6b34cd6092b939fddb3bdb56319fc1f53200b", func := "ravelin/ravelinlaw09.TypesShows", spec := "typesShows", inPlace := ["internal/abi.NoEscape", "internal/bytealg.MakeNoZero"], unfollowed := true, recurses := true, named := ["ravelin/types.kinds", "ravelin/lex.words", "ravelin/types.names"], loops := true, apart := false, laid := [("ravelin/lex.words", laid_ravelin_lex_words), ("ravelin/types.names", laid_ravelin_types_names), ("ravelin/types.kinds", laid_ravelin_types_kinds)], narrowed := true }
def TypesShowsUptoSaid : Prop := typesShowsUptoRow.holds Tryd.pinned (OpenSpec.upto typesShowsSpec)

/-- 'ravelinlaw09.TypesKinds', WHERE WHAT IT READS IS OF BULK AT MOST 1048576: true; the input reads as it did. -/
def typesKindsUptoRow : OpenClaim := { program := "ytmcnoagihnkkcaadoor", sum := "7e2efdf6f761cc36392fd63bedb6b34cd6092b939fddb3bdb56319fc1f53200b", func := "ravelin/ravelinlaw09.TypesKinds", spec := "typesKinds", inPlace := ["internal/abi.NoEscape", "internal/bytealg.MakeNoZero"], unfollowed := true, recurses := true, named := ["ravelin/types.kinds", "ravelin/lex.words", "ravelin/types.names"], loops := true, apart := false, laid := [("ravelin/lex.words", laid_ravelin_lex_words), ("ravelin/types.names", laid_ravelin_types_names), ("ravelin/types.kinds", laid_ravelin_types_kinds)], narrowed := true }
def TypesKindsUptoSaid : Prop := typesKindsUptoRow.holds Tryd.pinned (OpenSpec.upto typesKindsSpec)

/-- 'ravelinlaw09.TypesUnions', WHERE WHAT IT READS IS OF BULK AT MOST 1048576: true; the input reads as it did. -/
def typesUnionsUptoRow : OpenClaim := { program := "ytmcnoagihnkkcaadoor", sum := "7e2efdf6f761cc36392fd63bedb6b34cd6092b939fddb3bdb56319fc1f53200b", func := "ravelin/ravelinlaw09.TypesUnions", spec := "typesUnions", inPlace := ["internal/abi.NoEscape", "internal/bytealg.MakeNoZero"], unfollowed := true, recurses := true, named := ["ravelin/types.kinds", "ravelin/lex.words", "ravelin/types.names"], apart := false, laid := [("ravelin/lex.words", laid_ravelin_lex_words), ("ravelin/types.names", laid_ravelin_types_names), ("ravelin/types.kinds", laid_ravelin_types_kinds)], narrowed := true }
def TypesUnionsUptoSaid : Prop := typesUnionsUptoRow.holds Tryd.pinned (OpenSpec.upto typesUnionsSpec)

end Rows
end Go.Proofs.YtmcnoagihnkkcaaDoor
