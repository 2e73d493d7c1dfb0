/-
  NARROWER THAN 'FOR EVERY INPUT', by the rows' own cells (each row's printed sentence says how): CodeSame: loops, laid · CodeShows: loops, laid.
  DERIVED. THE GIVEN ROWS OF THIS SEAT. 2 by the template 'for every input the law returns true; each argument reads behind the call as it read before'; 0 by the template 'total and deterministic' (their statements: YtmebhdffgpnplaaDoorTotals.lean).
  GIVEN WITH THE SEED: the statements are not yours to turn. If you find one false, say at which input.
  Laid BY PROGRAM, IN A SANDBOX (cutbox-rows.mjs): the forced cells as the released guide's own fill.sh prints them over the translation 70c684d2f9ed32b7… (all of the seat's roots in one cut). By AI agents, Wed Nov 11 2026. No macro, syntax, notation, axiom, sorry.
-/
import Derived.Test.YtmebhdffgpnplaaDoorChecked
import GoSem.Claim
import GoSem.ClaimJoined
import GoSem.ClaimMapViews
import Derived.JoinedTies
import Derived.KernelRfl
namespace Go.Proofs.YtmebhdffgpnplaaDoor
/- THE CELL 'sum', in the pinned program and in every row, IS THE sha256 OF THE DUMP (.gsa) THAT YtmebhdffgpnplaaDoorProg.lean LOADS. Nothing in Lean hashes anything: it is a label: what it is worth is what the hold of that sum in a sandbox is worth. -/
noncomputable def Tryd.pinned : Pinned := { name := "ytmebhdffgpnplaadoor", sum := "70c684d2f9ed32b780d7086df15234e061d8bdaf6e8add010c372126e9f66525", checked := Tryd.checked }
namespace Rows
def none {H : Type} : Left H := { results := [], args := [] }

/- WHAT THE LISTED PACKAGE-LEVEL VARIABLES READ AS WHEN THE CALL BEGINS. Each datum BY PROGRAM (the guide's laid-datum.mjs) off the statement by which the dump's own 'gosem.cut.vars' lays the variable. In a bare row this is a premise. The card (YtmebhdffgpnplaaDoorCards.lean) ties it to the program's text. -/
def laid_ravelin_instr_lows {H : Type} : DataW H := .agg [.agg [.lit (.string []), .lit (.string [])], .agg [.lit (.string [99, 111, 110, 115, 116]), .lit (.string [65, 68])], .agg [.lit (.string [109, 111, 118, 101]), .lit (.string [65, 66])], .agg [.lit (.string [105, 110, 105, 116]), .lit (.string [65, 66])], .agg [.lit (.string [115, 101, 116]), .lit (.string [65, 66])], .agg [.lit (.string [99, 101, 108, 108]), .lit (.string [65])], .agg [.lit (.string [103, 101, 116, 99]), .lit (.string [65, 66])], .agg [.lit (.string [115, 101, 116, 99]), .lit (.string [65, 66])], .agg [.lit (.string [103, 101, 116, 117]), .lit (.string [65, 66])], .agg [.lit (.string [115, 101, 116, 117]), .lit (.string [65, 66])], .agg [.lit (.string []), .lit (.string [])], .agg [.lit (.string [97, 100, 100]), .lit (.string [65, 66, 67])], .agg [.lit (.string [115, 117, 98]), .lit (.string [65, 66, 67])], .agg [.lit (.string [109, 117, 108]), .lit (.string [65, 66, 67])], .agg [.lit (.string [100, 105, 118]), .lit (.string [65, 66, 67])], .agg [.lit (.string [109, 111, 100]), .lit (.string [65, 66, 67])], .agg [.lit (.string [108, 116]), .lit (.string [65, 66, 67])], .agg [.lit (.string [108, 101]), .lit (.string [65, 66, 67])], .agg [.lit (.string [101, 113]), .lit (.string [65, 66, 67])], .agg [.lit (.string [99, 97, 116]), .lit (.string [65, 66, 67])], .agg [.lit (.string []), .lit (.string [])], .agg [.lit (.string [97, 100, 100, 105]), .lit (.string [65, 66, 67])], .agg [.lit (.string [115, 117, 98, 105]), .lit (.string [65, 66, 67])], .agg [.lit (.string [109, 117, 108, 105]), .lit (.string [65, 66, 67])], .agg [.lit (.string [100, 105, 118, 105]), .lit (.string [65, 66, 67])], .agg [.lit (.string [109, 111, 100, 105]), .lit (.string [65, 66, 67])], .agg [.lit (.string [108, 116, 105]), .lit (.string [65, 66, 67])], .agg [.lit (.string [108, 101, 105]), .lit (.string [65, 66, 67])], .agg [.lit (.string []), .lit (.string [])], .agg [.lit (.string []), .lit (.string [])], .agg [.lit (.string [110, 101, 103]), .lit (.string [65, 66])], .agg [.lit (.string [110, 111, 116]), .lit (.string [65, 66])], .agg [.lit (.string [108, 101, 110]), .lit (.string [65, 66])]]
def laid_ravelin_instr_highs {H : Type} : DataW H := .agg [.agg [.lit (.string []), .lit (.string [])], .agg [.lit (.string []), .lit (.string [])], .agg [.lit (.string [106, 117, 109, 112]), .lit (.string [68])], .agg [.lit (.string [98, 114, 102]), .lit (.string [65, 68])], .agg [.lit (.string [98, 114, 116]), .lit (.string [65, 68])], .agg [.lit (.string [106, 111, 105, 110]), .lit (.string [68])], .agg [.lit (.string []), .lit (.string [])], .agg [.lit (.string []), .lit (.string [])], .agg [.lit (.string [99, 108, 111, 115, 117, 114, 101]), .lit (.string [65, 68])], .agg [.lit (.string [99, 97, 108, 108]), .lit (.string [65, 66, 67])], .agg [.lit (.string [114, 101, 116, 117, 114, 110]), .lit (.string [65])], .agg [.lit (.string [116, 97, 98, 108, 101]), .lit (.string [65])], .agg [.lit (.string [115, 116, 97, 109, 112]), .lit (.string [65, 68])], .agg [.lit (.string [103, 101, 116, 102]), .lit (.string [65, 66, 67])], .agg [.lit (.string [103, 101, 116, 115]), .lit (.string [65, 66, 67])], .agg [.lit (.string [115, 101, 116, 102]), .lit (.string [65, 66, 67])], .agg [.lit (.string []), .lit (.string [])], .agg [.lit (.string [103, 101, 116, 105]), .lit (.string [65, 66, 67])], .agg [.lit (.string [115, 101, 116, 105]), .lit (.string [65, 66, 67])], .agg [.lit (.string [114, 101, 97, 100]), .lit (.string [65, 68])], .agg [.lit (.string [119, 114, 105, 116, 101]), .lit (.string [65, 68])], .agg [.lit (.string [116, 121, 112, 101]), .lit (.string [65, 66])], .agg [.lit (.string [107, 101, 121]), .lit (.string [65, 66, 67])], .agg [.lit (.string [112, 99, 97, 108, 108]), .lit (.string [65])], .agg [.lit (.string [101, 114, 114, 111, 114]), .lit (.string [65])], .agg [.lit (.string [99, 114, 101, 97, 116, 101]), .lit (.string [65])], .agg [.lit (.string [114, 101, 115, 117, 109, 101]), .lit (.string [65, 66])], .agg [.lit (.string [121, 105, 101, 108, 100]), .lit (.string [65])], .agg [.lit (.string [115, 116, 97, 116, 117, 115]), .lit (.string [65, 66])], .agg [.lit (.string [99, 97, 115, 116]), .lit (.string [65, 68])], .agg [.lit (.string [98, 111, 117, 110, 100]), .lit (.string [65, 68])]]
def laid_ravelin_lex_words {H : Type} : DataW H := .agg [.lit (.string [97, 110, 100]), .lit (.string [98, 114, 101, 97, 107]), .lit (.string [99, 104, 97, 110, 110, 101, 108]), .lit (.string [100, 111]), .lit (.string [101, 108, 115, 101]), .lit (.string [101, 108, 115, 101, 105, 102]), .lit (.string [101, 110, 100]), .lit (.string [102, 97, 108, 115, 101]), .lit (.string [102, 117, 110, 99, 116, 105, 111, 110]), .lit (.string [105, 102]), .lit (.string [108, 111, 99, 97, 108]), .lit (.string [110, 105, 108]), .lit (.string [110, 111, 116]), .lit (.string [111, 114]), .lit (.string [114, 101, 116, 117, 114, 110]), .lit (.string [116, 104, 101, 110]), .lit (.string [116, 114, 117, 101]), .lit (.string [119, 104, 105, 108, 101])]
def laid_math_bits_deBruijn32tab {H : Type} : DataW H := .agg [.lit (.int .u8 0), .lit (.int .u8 1), .lit (.int .u8 28), .lit (.int .u8 2), .lit (.int .u8 29), .lit (.int .u8 14), .lit (.int .u8 24), .lit (.int .u8 3), .lit (.int .u8 30), .lit (.int .u8 22), .lit (.int .u8 20), .lit (.int .u8 15), .lit (.int .u8 25), .lit (.int .u8 17), .lit (.int .u8 4), .lit (.int .u8 8), .lit (.int .u8 31), .lit (.int .u8 27), .lit (.int .u8 13), .lit (.int .u8 23), .lit (.int .u8 21), .lit (.int .u8 19), .lit (.int .u8 16), .lit (.int .u8 7), .lit (.int .u8 26), .lit (.int .u8 12), .lit (.int .u8 18), .lit (.int .u8 6), .lit (.int .u8 11), .lit (.int .u8 5), .lit (.int .u8 10), .lit (.int .u8 9)]
def laid_math_bits_deBruijn64tab {H : Type} : DataW H := .agg [.lit (.int .u8 0), .lit (.int .u8 1), .lit (.int .u8 56), .lit (.int .u8 2), .lit (.int .u8 57), .lit (.int .u8 49), .lit (.int .u8 28), .lit (.int .u8 3), .lit (.int .u8 61), .lit (.int .u8 58), .lit (.int .u8 42), .lit (.int .u8 50), .lit (.int .u8 38), .lit (.int .u8 29), .lit (.int .u8 17), .lit (.int .u8 4), .lit (.int .u8 62), .lit (.int .u8 47), .lit (.int .u8 59), .lit (.int .u8 36), .lit (.int .u8 45), .lit (.int .u8 43), .lit (.int .u8 51), .lit (.int .u8 22), .lit (.int .u8 53), .lit (.int .u8 39), .lit (.int .u8 33), .lit (.int .u8 30), .lit (.int .u8 24), .lit (.int .u8 18), .lit (.int .u8 12), .lit (.int .u8 5), .lit (.int .u8 63), .lit (.int .u8 55), .lit (.int .u8 48), .lit (.int .u8 27), .lit (.int .u8 60), .lit (.int .u8 41), .lit (.int .u8 37), .lit (.int .u8 16), .lit (.int .u8 46), .lit (.int .u8 35), .lit (.int .u8 44), .lit (.int .u8 21), .lit (.int .u8 52), .lit (.int .u8 32), .lit (.int .u8 23), .lit (.int .u8 11), .lit (.int .u8 54), .lit (.int .u8 26), .lit (.int .u8 40), .lit (.int .u8 15), .lit (.int .u8 34), .lit (.int .u8 20), .lit (.int .u8 31), .lit (.int .u8 10), .lit (.int .u8 25), .lit (.int .u8 14), .lit (.int .u8 19), .lit (.int .u8 9), .lit (.int .u8 13), .lit (.int .u8 8), .lit (.int .u8 7), .lit (.int .u8 6)]
def laid_internal_strconv_uint64pow10 {H : Type} : DataW H := .agg [.lit (.int .u64 1), .lit (.int .u64 10), .lit (.int .u64 100), .lit (.int .u64 1000), .lit (.int .u64 10000), .lit (.int .u64 100000), .lit (.int .u64 1000000), .lit (.int .u64 10000000), .lit (.int .u64 100000000), .lit (.int .u64 1000000000), .lit (.int .u64 10000000000), .lit (.int .u64 100000000000), .lit (.int .u64 1000000000000), .lit (.int .u64 10000000000000), .lit (.int .u64 100000000000000), .lit (.int .u64 1000000000000000), .lit (.int .u64 10000000000000000), .lit (.int .u64 100000000000000000), .lit (.int .u64 1000000000000000000), .lit (.int .u64 10000000000000000000)]

/-- 'ravelinlaw16.CodeSame': WHATEVER THE INPUT: true; the input reads as it did. -/
def codeSameSpec : ChangeSpec := { name := "codeSame", fn := fun _ => fun
  | [d1, d2] => { results := [.lit (.bool true)], args := [d1, d2] }
  | _ => none }
def codeSameRow : OpenClaim := { program := "ytmebhdffgpnplaadoor", sum := "70c684d2f9ed32b780d7086df15234e061d8bdaf6e8add010c372126e9f66525", func := "ravelin/ravelinlaw16.CodeSame", spec := "codeSame", unfollowed := true, recurses := true, named := ["ravelin/lex.words", "ravelin/instr.lows", "ravelin/instr.highs"], loops := true, apart := false, laid := [("ravelin/instr.lows", laid_ravelin_instr_lows), ("ravelin/instr.highs", laid_ravelin_instr_highs), ("ravelin/lex.words", laid_ravelin_lex_words)] }
def CodeSameSaid : Prop := codeSameRow.holds Tryd.pinned (OpenSpec.ofChange codeSameSpec)

/-- ITS FALSE NEIGHBOUR: 'it returns false'. Refute it at one input. -/
def codeSameWrong : ChangeSpec := { name := "codeSame", fn := fun _ => fun
  | [d1, d2] => { results := [.lit (.bool false)], args := [d1, d2] }
  | _ => none }
def CodeSameWrongFalsely : Prop := codeSameRow.holds Tryd.pinned (OpenSpec.ofChange codeSameWrong)

/-- 'ravelinlaw16.CodeShows': WHATEVER THE INPUT: true; the input reads as it did. -/
def codeShowsSpec : ChangeSpec := { name := "codeShows", fn := fun _ => fun
  | [d] => { results := [.lit (.bool true)], args := [d] }
  | _ => none }
def codeShowsRow : OpenClaim := { program := "ytmebhdffgpnplaadoor", sum := "70c684d2f9ed32b780d7086df15234e061d8bdaf6e8add010c372126e9f66525", func := "ravelin/ravelinlaw16.CodeShows", spec := "codeShows", inPlace := ["internal/abi.NoEscape"], unfollowed := true, recurses := true, named := ["ravelin/lex.words", "ravelin/instr.lows", "ravelin/instr.highs", "internal/strconv.uint64pow10", "math/bits.deBruijn32tab", "math/bits.deBruijn64tab"], loops := true, apart := false, laid := [("math/bits.deBruijn32tab", laid_math_bits_deBruijn32tab), ("math/bits.deBruijn64tab", laid_math_bits_deBruijn64tab), ("internal/strconv.uint64pow10", laid_internal_strconv_uint64pow10), ("ravelin/instr.lows", laid_ravelin_instr_lows), ("ravelin/instr.highs", laid_ravelin_instr_highs), ("ravelin/lex.words", laid_ravelin_lex_words)] }
def CodeShowsSaid : Prop := codeShowsRow.holds Tryd.pinned (OpenSpec.ofChange codeShowsSpec)

/-- ITS FALSE NEIGHBOUR: 'it returns false'. Refute it at one input. -/
def codeShowsWrong : ChangeSpec := { name := "codeShows", fn := fun _ => fun
  | [d] => { results := [.lit (.bool false)], args := [d] }
  | _ => none }
def CodeShowsWrongFalsely : Prop := codeShowsRow.holds Tryd.pinned (OpenSpec.ofChange codeShowsWrong)

/- THE SECOND FORM. 'bulk': how many values and letters a reading holds, each counted each time it is reached (what is shared counts as often as it is met; a slice's spare places count too). A statement '..UptoSaid' is the law's where the arguments, and the package variables that the reading takes, are together of bulk at most 1048576: NARROWER than '..Said'. Prove '..Said' where nothing that the law and all that it calls make is longer than what came in: it says more and counts as full. Else prove '..UptoSaid'. A law counts once. -/
mutual
def uptoBulk {H : Type} : DataW H → Nat
  | .lit (.string bytes) => bytes.length + 1
  | .lit _ => 1
  | .nil => 1
  | .ptr d => uptoBulk d + 1
  | .slice elems spare => uptoBulkAll elems + uptoBulkAll spare + 1
  | .agg parts => uptoBulkAll parts + 1
  | .iface _ d => uptoBulk d + 1
  | .map entries => uptoBulkEntries entries + 1
  | .held _ => 1
def uptoBulkAll {H : Type} : List (DataW H) → Nat
  | [] => 0
  | d :: r => uptoBulk d + uptoBulkAll r
def uptoBulkEntries {H : Type} : List (Lit × DataW H) → Nat
  | [] => 0
  | x :: r => uptoBulkEntry x + uptoBulkEntries r
def uptoBulkEntry {H : Type} : Lit × DataW H → Nat
  | (.string bytes, d) => bytes.length + uptoBulk d + 1
  | (_, d) => uptoBulk d + 1
 end
def uptoSmall : (H : Type) → List (DataW H) → Bool := fun _ ds => decide (uptoBulkAll ds ≤ 1048576)
def OpenSpec.upto (s : _root_.Go.ChangeSpec) : _root_.Go.OpenSpec := { _root_.Go.OpenSpec.ofChange s with cond := some uptoSmall }

/-- 'ravelinlaw16.CodeSame', WHERE WHAT IT READS IS OF BULK AT MOST 1048576: true; the input reads as it did. -/
def codeSameUptoRow : OpenClaim := { program := "ytmebhdffgpnplaadoor", sum := "70c684d2f9ed32b780d7086df15234e061d8bdaf6e8add010c372126e9f66525", func := "ravelin/ravelinlaw16.CodeSame", spec := "codeSame", unfollowed := true, recurses := true, named := ["ravelin/lex.words", "ravelin/instr.lows", "ravelin/instr.highs"], loops := true, apart := false, laid := [("ravelin/instr.lows", laid_ravelin_instr_lows), ("ravelin/instr.highs", laid_ravelin_instr_highs), ("ravelin/lex.words", laid_ravelin_lex_words)], narrowed := true }
def CodeSameUptoSaid : Prop := codeSameUptoRow.holds Tryd.pinned (OpenSpec.upto codeSameSpec)

/-- 'ravelinlaw16.CodeShows', WHERE WHAT IT READS IS OF BULK AT MOST 1048576: true; the input reads as it did. -/
def codeShowsUptoRow : OpenClaim := { program := "ytmebhdffgpnplaadoor", sum := "70c684d2f9ed32b780d7086df15234e061d8bdaf6e8add010c372126e9f66525", func := "ravelin/ravelinlaw16.CodeShows", spec := "codeShows", inPlace := ["internal/abi.NoEscape"], unfollowed := true, recurses := true, named := ["ravelin/lex.words", "ravelin/instr.lows", "ravelin/instr.highs", "internal/strconv.uint64pow10", "math/bits.deBruijn32tab", "math/bits.deBruijn64tab"], loops := true, apart := false, laid := [("math/bits.deBruijn32tab", laid_math_bits_deBruijn32tab), ("math/bits.deBruijn64tab", laid_math_bits_deBruijn64tab), ("internal/strconv.uint64pow10", laid_internal_strconv_uint64pow10), ("ravelin/instr.lows", laid_ravelin_instr_lows), ("ravelin/instr.highs", laid_ravelin_instr_highs), ("ravelin/lex.words", laid_ravelin_lex_words)], narrowed := true }
def CodeShowsUptoSaid : Prop := codeShowsUptoRow.holds Tryd.pinned (OpenSpec.upto codeShowsSpec)

end Rows
end Go.Proofs.YtmebhdffgpnplaaDoor
