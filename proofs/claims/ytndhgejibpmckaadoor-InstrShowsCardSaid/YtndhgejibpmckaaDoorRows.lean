/-
  NARROWER THAN 'FOR EVERY INPUT', by the rows' own cells (each row's printed sentence says how): InstrWrites: laid · InstrReads: laid · InstrForms: laid · InstrShows: laid · InstrBack: laid.
  DERIVED. THE GIVEN ROWS OF THIS SEAT. 5 by the template 'for every input the law returns true; each argument reads behind the call as it read before'; 0 by the template 'total and deterministic' (their statements: YtndhgejibpmckaaDoorTotals.lean).
  GIVEN WITH THE SEED: the statements are not yours to turn. If you find one false, say at which input.
  Laid BY PROGRAM, IN A SANDBOX (cutbox-rows.mjs): the forced cells as the released guide's own fill.sh prints them over the translation 768afddf77f9c343… (all of the seat's roots in one cut). By AI agents, Wed Nov 11 2026. No macro, syntax, notation, axiom, sorry.
-/
import Derived.Test.YtndhgejibpmckaaDoorChecked
import GoSem.Claim
import GoSem.ClaimJoined
import GoSem.ClaimMapViews
import Derived.JoinedTies
import Derived.KernelRfl
namespace Go.Proofs.YtndhgejibpmckaaDoor
/- THE CELL 'sum', in the pinned program and in every row, IS THE sha256 OF THE DUMP (.gsa) THAT YtndhgejibpmckaaDoorProg.lean LOADS. Nothing in Lean hashes anything: it is a label: what it is worth is what the hold of that sum in a sandbox is worth. -/
noncomputable def Tryd.pinned : Pinned := { name := "ytndhgejibpmckaadoor", sum := "768afddf77f9c34353dfa744a09f6d097250aa516f9ddb5d8805dc2333e64a39", checked := Tryd.checked }
namespace Rows
def none {H : Type} : Left H := { results := [], args := [] }

/- WHAT THE LISTED PACKAGE-LEVEL VARIABLES READ AS WHEN THE CALL BEGINS. Each datum BY PROGRAM (the guide's laid-datum.mjs) off the statement by which the dump's own 'gosem.cut.vars' lays the variable. In a bare row this is a premise. The card (YtndhgejibpmckaaDoorCards.lean) ties it to the program's text. -/
def laid_ravelin_instr_lows {H : Type} : DataW H := .agg [.agg [.lit (.string []), .lit (.string [])], .agg [.lit (.string [99, 111, 110, 115, 116]), .lit (.string [65, 68])], .agg [.lit (.string [109, 111, 118, 101]), .lit (.string [65, 66])], .agg [.lit (.string [105, 110, 105, 116]), .lit (.string [65, 66])], .agg [.lit (.string [115, 101, 116]), .lit (.string [65, 66])], .agg [.lit (.string [99, 101, 108, 108]), .lit (.string [65])], .agg [.lit (.string [103, 101, 116, 99]), .lit (.string [65, 66])], .agg [.lit (.string [115, 101, 116, 99]), .lit (.string [65, 66])], .agg [.lit (.string [103, 101, 116, 117]), .lit (.string [65, 66])], .agg [.lit (.string [115, 101, 116, 117]), .lit (.string [65, 66])], .agg [.lit (.string []), .lit (.string [])], .agg [.lit (.string [97, 100, 100]), .lit (.string [65, 66, 67])], .agg [.lit (.string [115, 117, 98]), .lit (.string [65, 66, 67])], .agg [.lit (.string [109, 117, 108]), .lit (.string [65, 66, 67])], .agg [.lit (.string [100, 105, 118]), .lit (.string [65, 66, 67])], .agg [.lit (.string [109, 111, 100]), .lit (.string [65, 66, 67])], .agg [.lit (.string [108, 116]), .lit (.string [65, 66, 67])], .agg [.lit (.string [108, 101]), .lit (.string [65, 66, 67])], .agg [.lit (.string [101, 113]), .lit (.string [65, 66, 67])], .agg [.lit (.string [99, 97, 116]), .lit (.string [65, 66, 67])], .agg [.lit (.string []), .lit (.string [])], .agg [.lit (.string [97, 100, 100, 105]), .lit (.string [65, 66, 67])], .agg [.lit (.string [115, 117, 98, 105]), .lit (.string [65, 66, 67])], .agg [.lit (.string [109, 117, 108, 105]), .lit (.string [65, 66, 67])], .agg [.lit (.string [100, 105, 118, 105]), .lit (.string [65, 66, 67])], .agg [.lit (.string [109, 111, 100, 105]), .lit (.string [65, 66, 67])], .agg [.lit (.string [108, 116, 105]), .lit (.string [65, 66, 67])], .agg [.lit (.string [108, 101, 105]), .lit (.string [65, 66, 67])], .agg [.lit (.string []), .lit (.string [])], .agg [.lit (.string []), .lit (.string [])], .agg [.lit (.string [110, 101, 103]), .lit (.string [65, 66])], .agg [.lit (.string [110, 111, 116]), .lit (.string [65, 66])], .agg [.lit (.string [108, 101, 110]), .lit (.string [65, 66])]]
def laid_ravelin_instr_highs {H : Type} : DataW H := .agg [.agg [.lit (.string []), .lit (.string [])], .agg [.lit (.string []), .lit (.string [])], .agg [.lit (.string [106, 117, 109, 112]), .lit (.string [68])], .agg [.lit (.string [98, 114, 102]), .lit (.string [65, 68])], .agg [.lit (.string [98, 114, 116]), .lit (.string [65, 68])], .agg [.lit (.string [106, 111, 105, 110]), .lit (.string [68])], .agg [.lit (.string []), .lit (.string [])], .agg [.lit (.string []), .lit (.string [])], .agg [.lit (.string [99, 108, 111, 115, 117, 114, 101]), .lit (.string [65, 68])], .agg [.lit (.string [99, 97, 108, 108]), .lit (.string [65, 66, 67])], .agg [.lit (.string [114, 101, 116, 117, 114, 110]), .lit (.string [65])], .agg [.lit (.string [116, 97, 98, 108, 101]), .lit (.string [65])], .agg [.lit (.string [115, 116, 97, 109, 112]), .lit (.string [65, 68])], .agg [.lit (.string [103, 101, 116, 102]), .lit (.string [65, 66, 67])], .agg [.lit (.string [103, 101, 116, 115]), .lit (.string [65, 66, 67])], .agg [.lit (.string [115, 101, 116, 102]), .lit (.string [65, 66, 67])], .agg [.lit (.string []), .lit (.string [])], .agg [.lit (.string [103, 101, 116, 105]), .lit (.string [65, 66, 67])], .agg [.lit (.string [115, 101, 116, 105]), .lit (.string [65, 66, 67])], .agg [.lit (.string [114, 101, 97, 100]), .lit (.string [65, 68])], .agg [.lit (.string [119, 114, 105, 116, 101]), .lit (.string [65, 68])], .agg [.lit (.string [116, 121, 112, 101]), .lit (.string [65, 66])], .agg [.lit (.string [107, 101, 121]), .lit (.string [65, 66, 67])], .agg [.lit (.string [112, 99, 97, 108, 108]), .lit (.string [65])], .agg [.lit (.string [101, 114, 114, 111, 114]), .lit (.string [65])], .agg [.lit (.string [99, 114, 101, 97, 116, 101]), .lit (.string [65])], .agg [.lit (.string [114, 101, 115, 117, 109, 101]), .lit (.string [65, 66])], .agg [.lit (.string [121, 105, 101, 108, 100]), .lit (.string [65])], .agg [.lit (.string [115, 116, 97, 116, 117, 115]), .lit (.string [65, 66])], .agg [.lit (.string [99, 97, 115, 116]), .lit (.string [65, 68])], .agg [.lit (.string [98, 111, 117, 110, 100]), .lit (.string [65, 68])]]
def laid_math_bits_deBruijn32tab {H : Type} : DataW H := .agg [.lit (.int .u8 0), .lit (.int .u8 1), .lit (.int .u8 28), .lit (.int .u8 2), .lit (.int .u8 29), .lit (.int .u8 14), .lit (.int .u8 24), .lit (.int .u8 3), .lit (.int .u8 30), .lit (.int .u8 22), .lit (.int .u8 20), .lit (.int .u8 15), .lit (.int .u8 25), .lit (.int .u8 17), .lit (.int .u8 4), .lit (.int .u8 8), .lit (.int .u8 31), .lit (.int .u8 27), .lit (.int .u8 13), .lit (.int .u8 23), .lit (.int .u8 21), .lit (.int .u8 19), .lit (.int .u8 16), .lit (.int .u8 7), .lit (.int .u8 26), .lit (.int .u8 12), .lit (.int .u8 18), .lit (.int .u8 6), .lit (.int .u8 11), .lit (.int .u8 5), .lit (.int .u8 10), .lit (.int .u8 9)]
def laid_math_bits_deBruijn64tab {H : Type} : DataW H := .agg [.lit (.int .u8 0), .lit (.int .u8 1), .lit (.int .u8 56), .lit (.int .u8 2), .lit (.int .u8 57), .lit (.int .u8 49), .lit (.int .u8 28), .lit (.int .u8 3), .lit (.int .u8 61), .lit (.int .u8 58), .lit (.int .u8 42), .lit (.int .u8 50), .lit (.int .u8 38), .lit (.int .u8 29), .lit (.int .u8 17), .lit (.int .u8 4), .lit (.int .u8 62), .lit (.int .u8 47), .lit (.int .u8 59), .lit (.int .u8 36), .lit (.int .u8 45), .lit (.int .u8 43), .lit (.int .u8 51), .lit (.int .u8 22), .lit (.int .u8 53), .lit (.int .u8 39), .lit (.int .u8 33), .lit (.int .u8 30), .lit (.int .u8 24), .lit (.int .u8 18), .lit (.int .u8 12), .lit (.int .u8 5), .lit (.int .u8 63), .lit (.int .u8 55), .lit (.int .u8 48), .lit (.int .u8 27), .lit (.int .u8 60), .lit (.int .u8 41), .lit (.int .u8 37), .lit (.int .u8 16), .lit (.int .u8 46), .lit (.int .u8 35), .lit (.int .u8 44), .lit (.int .u8 21), .lit (.int .u8 52), .lit (.int .u8 32), .lit (.int .u8 23), .lit (.int .u8 11), .lit (.int .u8 54), .lit (.int .u8 26), .lit (.int .u8 40), .lit (.int .u8 15), .lit (.int .u8 34), .lit (.int .u8 20), .lit (.int .u8 31), .lit (.int .u8 10), .lit (.int .u8 25), .lit (.int .u8 14), .lit (.int .u8 19), .lit (.int .u8 9), .lit (.int .u8 13), .lit (.int .u8 8), .lit (.int .u8 7), .lit (.int .u8 6)]
def laid_internal_strconv_uint64pow10 {H : Type} : DataW H := .agg [.lit (.int .u64 1), .lit (.int .u64 10), .lit (.int .u64 100), .lit (.int .u64 1000), .lit (.int .u64 10000), .lit (.int .u64 100000), .lit (.int .u64 1000000), .lit (.int .u64 10000000), .lit (.int .u64 100000000), .lit (.int .u64 1000000000), .lit (.int .u64 10000000000), .lit (.int .u64 100000000000), .lit (.int .u64 1000000000000), .lit (.int .u64 10000000000000), .lit (.int .u64 100000000000000), .lit (.int .u64 1000000000000000), .lit (.int .u64 10000000000000000), .lit (.int .u64 100000000000000000), .lit (.int .u64 1000000000000000000), .lit (.int .u64 10000000000000000000)]

/-- 'ravelinlaw15.InstrWrites': WHATEVER THE INPUT: true; the input reads as it did. -/
def instrWritesSpec : ChangeSpec := { name := "instrWrites", fn := fun _ => fun
  | [d] => { results := [.lit (.bool true)], args := [d] }
  | _ => none }
def instrWritesRow : OpenClaim := { program := "ytndhgejibpmckaadoor", sum := "768afddf77f9c34353dfa744a09f6d097250aa516f9ddb5d8805dc2333e64a39", func := "ravelin/ravelinlaw15.InstrWrites", spec := "instrWrites", named := ["ravelin/instr.lows", "ravelin/instr.highs"], apart := false, laid := [("ravelin/instr.lows", laid_ravelin_instr_lows), ("ravelin/instr.highs", laid_ravelin_instr_highs)] }
def InstrWritesSaid : Prop := instrWritesRow.holds Tryd.pinned (OpenSpec.ofChange instrWritesSpec)

/-- ITS FALSE NEIGHBOUR: 'it returns false'. Refute it at one input. -/
def instrWritesWrong : ChangeSpec := { name := "instrWrites", fn := fun _ => fun
  | [d] => { results := [.lit (.bool false)], args := [d] }
  | _ => none }
def InstrWritesWrongFalsely : Prop := instrWritesRow.holds Tryd.pinned (OpenSpec.ofChange instrWritesWrong)

/-- 'ravelinlaw15.InstrReads': WHATEVER THE INPUT: true; the input reads as it did. -/
def instrReadsSpec : ChangeSpec := { name := "instrReads", fn := fun _ => fun
  | [d] => { results := [.lit (.bool true)], args := [d] }
  | _ => none }
def instrReadsRow : OpenClaim := { program := "ytndhgejibpmckaadoor", sum := "768afddf77f9c34353dfa744a09f6d097250aa516f9ddb5d8805dc2333e64a39", func := "ravelin/ravelinlaw15.InstrReads", spec := "instrReads", named := ["ravelin/instr.lows", "ravelin/instr.highs"], apart := false, laid := [("ravelin/instr.lows", laid_ravelin_instr_lows), ("ravelin/instr.highs", laid_ravelin_instr_highs)] }
def InstrReadsSaid : Prop := instrReadsRow.holds Tryd.pinned (OpenSpec.ofChange instrReadsSpec)

/-- ITS FALSE NEIGHBOUR: 'it returns false'. Refute it at one input. -/
def instrReadsWrong : ChangeSpec := { name := "instrReads", fn := fun _ => fun
  | [d] => { results := [.lit (.bool false)], args := [d] }
  | _ => none }
def InstrReadsWrongFalsely : Prop := instrReadsRow.holds Tryd.pinned (OpenSpec.ofChange instrReadsWrong)

/-- 'ravelinlaw15.InstrForms': WHATEVER THE INPUT: true; the input reads as it did. -/
def instrFormsSpec : ChangeSpec := { name := "instrForms", fn := fun _ => fun
  | [d] => { results := [.lit (.bool true)], args := [d] }
  | _ => none }
def instrFormsRow : OpenClaim := { program := "ytndhgejibpmckaadoor", sum := "768afddf77f9c34353dfa744a09f6d097250aa516f9ddb5d8805dc2333e64a39", func := "ravelin/ravelinlaw15.InstrForms", spec := "instrForms", named := ["ravelin/instr.lows", "ravelin/instr.highs"], apart := false, laid := [("ravelin/instr.lows", laid_ravelin_instr_lows), ("ravelin/instr.highs", laid_ravelin_instr_highs)] }
def InstrFormsSaid : Prop := instrFormsRow.holds Tryd.pinned (OpenSpec.ofChange instrFormsSpec)

/-- ITS FALSE NEIGHBOUR: 'it returns false'. Refute it at one input. -/
def instrFormsWrong : ChangeSpec := { name := "instrForms", fn := fun _ => fun
  | [d] => { results := [.lit (.bool false)], args := [d] }
  | _ => none }
def InstrFormsWrongFalsely : Prop := instrFormsRow.holds Tryd.pinned (OpenSpec.ofChange instrFormsWrong)

/-- 'ravelinlaw15.InstrShows': WHATEVER THE INPUT: true; the input reads as it did. -/
def instrShowsSpec : ChangeSpec := { name := "instrShows", fn := fun _ => fun
  | [d] => { results := [.lit (.bool true)], args := [d] }
  | _ => none }
def instrShowsRow : OpenClaim := { program := "ytndhgejibpmckaadoor", sum := "768afddf77f9c34353dfa744a09f6d097250aa516f9ddb5d8805dc2333e64a39", func := "ravelin/ravelinlaw15.InstrShows", spec := "instrShows", named := ["ravelin/instr.lows", "ravelin/instr.highs", "internal/strconv.uint64pow10", "math/bits.deBruijn32tab", "math/bits.deBruijn64tab"], apart := false, laid := [("math/bits.deBruijn32tab", laid_math_bits_deBruijn32tab), ("math/bits.deBruijn64tab", laid_math_bits_deBruijn64tab), ("internal/strconv.uint64pow10", laid_internal_strconv_uint64pow10), ("ravelin/instr.lows", laid_ravelin_instr_lows), ("ravelin/instr.highs", laid_ravelin_instr_highs)] }
def InstrShowsSaid : Prop := instrShowsRow.holds Tryd.pinned (OpenSpec.ofChange instrShowsSpec)

/-- ITS FALSE NEIGHBOUR: 'it returns false'. Refute it at one input. -/
def instrShowsWrong : ChangeSpec := { name := "instrShows", fn := fun _ => fun
  | [d] => { results := [.lit (.bool false)], args := [d] }
  | _ => none }
def InstrShowsWrongFalsely : Prop := instrShowsRow.holds Tryd.pinned (OpenSpec.ofChange instrShowsWrong)

/-- 'ravelinlaw15.InstrBack': WHATEVER THE INPUT: true; the input reads as it did. -/
def instrBackSpec : ChangeSpec := { name := "instrBack", fn := fun _ => fun
  | [d1, d2] => { results := [.lit (.bool true)], args := [d1, d2] }
  | _ => none }
def instrBackRow : OpenClaim := { program := "ytndhgejibpmckaadoor", sum := "768afddf77f9c34353dfa744a09f6d097250aa516f9ddb5d8805dc2333e64a39", func := "ravelin/ravelinlaw15.InstrBack", spec := "instrBack", named := ["ravelin/instr.lows", "ravelin/instr.highs"], apart := false, laid := [("ravelin/instr.lows", laid_ravelin_instr_lows), ("ravelin/instr.highs", laid_ravelin_instr_highs)] }
def InstrBackSaid : Prop := instrBackRow.holds Tryd.pinned (OpenSpec.ofChange instrBackSpec)

/-- ITS FALSE NEIGHBOUR: 'it returns false'. Refute it at one input. -/
def instrBackWrong : ChangeSpec := { name := "instrBack", fn := fun _ => fun
  | [d1, d2] => { results := [.lit (.bool false)], args := [d1, d2] }
  | _ => none }
def InstrBackWrongFalsely : Prop := instrBackRow.holds Tryd.pinned (OpenSpec.ofChange instrBackWrong)

/- THE SECOND FORM. 'bulk': how many values and letters a reading holds, each counted each time it is reached (what is shared counts as often as it is met; a slice's spare places count too). A statement '..UptoSaid' is the law's where the arguments, and the package variables that the reading takes, are together of bulk at most 1048576: NARROWER than '..Said'. Prove '..Said' where nothing that the law and all that it calls make is longer than what came in: it says more and counts as full. Else prove '..UptoSaid'. A law counts once. -/
mutual
def uptoBulk {H : Type} : DataW H → Nat
  | .lit (.string bytes) => bytes.length + 1
  | .lit _ => 1
  | .nil => 1
  | .ptr d => uptoBulk d + 1
  | .slice elems spare => uptoBulkAll elems + uptoBulkAll spare + 1
  | .agg parts => uptoBulkAll parts + 1
  | .iface _ d => uptoBulk d + 1
  | .map entries => uptoBulkEntries entries + 1
  | .held _ => 1
def uptoBulkAll {H : Type} : List (DataW H) → Nat
  | [] => 0
  | d :: r => uptoBulk d + uptoBulkAll r
def uptoBulkEntries {H : Type} : List (Lit × DataW H) → Nat
  | [] => 0
  | x :: r => uptoBulkEntry x + uptoBulkEntries r
def uptoBulkEntry {H : Type} : Lit × DataW H → Nat
  | (.string bytes, d) => bytes.length + uptoBulk d + 1
  | (_, d) => uptoBulk d + 1
 end
def uptoSmall : (H : Type) → List (DataW H) → Bool := fun _ ds => decide (uptoBulkAll ds ≤ 1048576)
def OpenSpec.upto (s : _root_.Go.ChangeSpec) : _root_.Go.OpenSpec := { _root_.Go.OpenSpec.ofChange s with cond := some uptoSmall }

/-- 'ravelinlaw15.InstrWrites', WHERE WHAT IT READS IS OF BULK AT MOST 1048576: true; the input reads as it did. -/
def instrWritesUptoRow : OpenClaim := { program := "ytndhgejibpmckaadoor", sum := "768afddf77f9c34353dfa744a09f6d097250aa516f9ddb5d8805dc2333e64a39", func := "ravelin/ravelinlaw15.InstrWrites", spec := "instrWrites", named := ["ravelin/instr.lows", "ravelin/instr.highs"], apart := false, laid := [("ravelin/instr.lows", laid_ravelin_instr_lows), ("ravelin/instr.highs", laid_ravelin_instr_highs)], narrowed := true }
def InstrWritesUptoSaid : Prop := instrWritesUptoRow.holds Tryd.pinned (OpenSpec.upto instrWritesSpec)

/-- 'ravelinlaw15.InstrReads', WHERE WHAT IT READS IS OF BULK AT MOST 1048576: true; the input reads as it did. -/
def instrReadsUptoRow : OpenClaim := { program := "ytndhgejibpmckaadoor", sum := "768afddf77f9c34353dfa744a09f6d097250aa516f9ddb5d8805dc2333e64a39", func := "ravelin/ravelinlaw15.InstrReads", spec := "instrReads", named := ["ravelin/instr.lows", "ravelin/instr.highs"], apart := false, laid := [("ravelin/instr.lows", laid_ravelin_instr_lows), ("ravelin/instr.highs", laid_ravelin_instr_highs)], narrowed := true }
def InstrReadsUptoSaid : Prop := instrReadsUptoRow.holds Tryd.pinned (OpenSpec.upto instrReadsSpec)

/-- 'ravelinlaw15.InstrForms', WHERE WHAT IT READS IS OF BULK AT MOST 1048576: true; the input reads as it did. -/
def instrFormsUptoRow : OpenClaim := { program := "ytndhgejibpmckaadoor", sum := "768afddf77f9c34353dfa744a09f6d097250aa516f9ddb5d8805dc2333e64a39", func := "ravelin/ravelinlaw15.InstrForms", spec := "instrForms", named := ["ravelin/instr.lows", "ravelin/instr.highs"], apart := false, laid := [("ravelin/instr.lows", laid_ravelin_instr_lows), ("ravelin/instr.highs", laid_ravelin_instr_highs)], narrowed := true }
def InstrFormsUptoSaid : Prop := instrFormsUptoRow.holds Tryd.pinned (OpenSpec.upto instrFormsSpec)

/-- 'ravelinlaw15.InstrShows', WHERE WHAT IT READS IS OF BULK AT MOST 1048576: true; the input reads as it did. -/
def instrShowsUptoRow : OpenClaim := { program := "ytndhgejibpmckaadoor", sum := "768afddf77f9c34353dfa744a09f6d097250aa516f9ddb5d8805dc2333e64a39", func := "ravelin/ravelinlaw15.InstrShows", spec := "instrShows", named := ["ravelin/instr.lows", "ravelin/instr.highs", "internal/strconv.uint64pow10", "math/bits.deBruijn32tab", "math/bits.deBruijn64tab"], apart := false, laid := [("math/bits.deBruijn32tab", laid_math_bits_deBruijn32tab), ("math/bits.deBruijn64tab", laid_math_bits_deBruijn64tab), ("internal/strconv.uint64pow10", laid_internal_strconv_uint64pow10), ("ravelin/instr.lows", laid_ravelin_instr_lows), ("ravelin/instr.highs", laid_ravelin_instr_highs)], narrowed := true }
def InstrShowsUptoSaid : Prop := instrShowsUptoRow.holds Tryd.pinned (OpenSpec.upto instrShowsSpec)

/-- 'ravelinlaw15.InstrBack', WHERE WHAT IT READS IS OF BULK AT MOST 1048576: true; the input reads as it did. -/
def instrBackUptoRow : OpenClaim := { program := "ytndhgejibpmckaadoor", sum := "768afddf77f9c34353dfa744a09f6d097250aa516f9ddb5d8805dc2333e64a39", func := "ravelin/ravelinlaw15.InstrBack", spec := "instrBack", named := ["ravelin/instr.lows", "ravelin/instr.highs"], apart := false, laid := [("ravelin/instr.lows", laid_ravelin_instr_lows), ("ravelin/instr.highs", laid_ravelin_instr_highs)], narrowed := true }
def InstrBackUptoSaid : Prop := instrBackUptoRow.holds Tryd.pinned (OpenSpec.upto instrBackSpec)

end Rows
end Go.Proofs.YtndhgejibpmckaaDoor
