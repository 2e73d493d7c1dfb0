/-
  No cell of these rows narrows 'for every input' (looked for: loops, veiled, ifaces, maps, wideKeys, modest, calm, conditions, laid).
  DERIVED. THE GIVEN ROWS OF THIS SEAT. 5 by the template 'for every input the law returns true; each argument reads behind the call as it read before'; 0 by the template 'total and deterministic' (their statements: YtpmbbkhhnkhcbaaTotals.lean).
  GIVEN WITH THE SEED: the statements are not yours to turn. If you find one false, say at which input.
  Laid BY PROGRAM, IN A SANDBOX (cutbox-rows.mjs): the forced cells as the released guide's own fill.sh prints them over the translation fbe44eb32235f8e4… (all of the seat's roots in one cut). By AI agents, Wed Nov 11 2026. No macro, syntax, notation, axiom, sorry.
-/
import Derived.Test.YtpmbbkhhnkhcbaaChecked
import GoSem.Claim
import GoSem.ClaimJoined
import GoSem.ClaimMapViews
import Derived.JoinedTies
import Derived.KernelRfl
namespace Go.Proofs.Ytpmbbkhhnkhcbaa
/- THE CELL 'sum', in the pinned program and in every row, IS THE sha256 OF THE DUMP (.gsa) THAT YtpmbbkhhnkhcbaaProg.lean LOADS. Nothing in Lean hashes anything: it is a label: what it is worth is what the hold of that sum in a sandbox is worth. -/
noncomputable def Try.pinned : Pinned := { name := "ytpmbbkhhnkhcbaa", sum := "fbe44eb32235f8e483a485c2448307225d9602a3b0c8a14b52435022dba85ad3", checked := Try.checked }
namespace Rows
def none {H : Type} : Left H := { results := [], args := [] }

/-- 'ravelinlaw04.TableMonotone': WHATEVER THE INPUT: true; the input reads as it did. -/
def tableMonotoneSpec : ChangeSpec := { name := "tableMonotone", fn := fun _ => fun
  | [d1, d2] => { results := [.lit (.bool true)], args := [d1, d2] }
  | _ => none }
def tableMonotoneRow : OpenClaim := { program := "ytpmbbkhhnkhcbaa", sum := "fbe44eb32235f8e483a485c2448307225d9602a3b0c8a14b52435022dba85ad3", func := "ravelin/ravelinlaw04.TableMonotone", spec := "tableMonotone", unfollowed := true, recurses := true, plainKeys := false, apart := false }
def TableMonotoneSaid : Prop := tableMonotoneRow.holds Try.pinned (OpenSpec.ofChange tableMonotoneSpec)

/-- ITS FALSE NEIGHBOUR: 'it returns false'. Refute it at one input. -/
def tableMonotoneWrong : ChangeSpec := { name := "tableMonotone", fn := fun _ => fun
  | [d1, d2] => { results := [.lit (.bool false)], args := [d1, d2] }
  | _ => none }
def TableMonotoneWrongFalsely : Prop := tableMonotoneRow.holds Try.pinned (OpenSpec.ofChange tableMonotoneWrong)

/-- 'ravelinlaw04.TableLabels': WHATEVER THE INPUT: true; the input reads as it did. -/
def tableLabelsSpec : ChangeSpec := { name := "tableLabels", fn := fun _ => fun
  | [d1, d2, d3] => { results := [.lit (.bool true)], args := [d1, d2, d3] }
  | _ => none }
def tableLabelsRow : OpenClaim := { program := "ytpmbbkhhnkhcbaa", sum := "fbe44eb32235f8e483a485c2448307225d9602a3b0c8a14b52435022dba85ad3", func := "ravelin/ravelinlaw04.TableLabels", spec := "tableLabels", plainKeys := false, apart := false }
def TableLabelsSaid : Prop := tableLabelsRow.holds Try.pinned (OpenSpec.ofChange tableLabelsSpec)

/-- ITS FALSE NEIGHBOUR: 'it returns false'. Refute it at one input. -/
def tableLabelsWrong : ChangeSpec := { name := "tableLabels", fn := fun _ => fun
  | [d1, d2, d3] => { results := [.lit (.bool false)], args := [d1, d2, d3] }
  | _ => none }
def TableLabelsWrongFalsely : Prop := tableLabelsRow.holds Try.pinned (OpenSpec.ofChange tableLabelsWrong)

/-- 'ravelinlaw04.TableNone': WHATEVER THE INPUT: true; the input reads as it did. -/
def tableNoneSpec : ChangeSpec := { name := "tableNone", fn := fun _ => fun
  | [d] => { results := [.lit (.bool true)], args := [d] }
  | _ => none }
def tableNoneRow : OpenClaim := { program := "ytpmbbkhhnkhcbaa", sum := "fbe44eb32235f8e483a485c2448307225d9602a3b0c8a14b52435022dba85ad3", func := "ravelin/ravelinlaw04.TableNone", spec := "tableNone", unfollowed := true, recurses := true, plainKeys := false, apart := false }
def TableNoneSaid : Prop := tableNoneRow.holds Try.pinned (OpenSpec.ofChange tableNoneSpec)

/-- ITS FALSE NEIGHBOUR: 'it returns false'. Refute it at one input. -/
def tableNoneWrong : ChangeSpec := { name := "tableNone", fn := fun _ => fun
  | [d] => { results := [.lit (.bool false)], args := [d] }
  | _ => none }
def TableNoneWrongFalsely : Prop := tableNoneRow.holds Try.pinned (OpenSpec.ofChange tableNoneWrong)

/-- 'ravelinlaw04.TableRefuses': WHATEVER THE INPUT: true; the input reads as it did. -/
def tableRefusesSpec : ChangeSpec := { name := "tableRefuses", fn := fun _ => fun
  | [d1, d2, d3] => { results := [.lit (.bool true)], args := [d1, d2, d3] }
  | _ => none }
def tableRefusesRow : OpenClaim := { program := "ytpmbbkhhnkhcbaa", sum := "fbe44eb32235f8e483a485c2448307225d9602a3b0c8a14b52435022dba85ad3", func := "ravelin/ravelinlaw04.TableRefuses", spec := "tableRefuses", unfollowed := true, recurses := true, plainKeys := false, apart := false }
def TableRefusesSaid : Prop := tableRefusesRow.holds Try.pinned (OpenSpec.ofChange tableRefusesSpec)

/-- ITS FALSE NEIGHBOUR: 'it returns false'. Refute it at one input. -/
def tableRefusesWrong : ChangeSpec := { name := "tableRefuses", fn := fun _ => fun
  | [d1, d2, d3] => { results := [.lit (.bool false)], args := [d1, d2, d3] }
  | _ => none }
def TableRefusesWrongFalsely : Prop := tableRefusesRow.holds Try.pinned (OpenSpec.ofChange tableRefusesWrong)

/-- 'ravelinlaw04.TableReads': WHATEVER THE INPUT: true; the input reads as it did. -/
def tableReadsSpec : ChangeSpec := { name := "tableReads", fn := fun _ => fun
  | [d1, d2, d3] => { results := [.lit (.bool true)], args := [d1, d2, d3] }
  | _ => none }
def tableReadsRow : OpenClaim := { program := "ytpmbbkhhnkhcbaa", sum := "fbe44eb32235f8e483a485c2448307225d9602a3b0c8a14b52435022dba85ad3", func := "ravelin/ravelinlaw04.TableReads", spec := "tableReads", unfollowed := true, recurses := true, plainKeys := false, apart := false }
def TableReadsSaid : Prop := tableReadsRow.holds Try.pinned (OpenSpec.ofChange tableReadsSpec)

/-- ITS FALSE NEIGHBOUR: 'it returns false'. Refute it at one input. -/
def tableReadsWrong : ChangeSpec := { name := "tableReads", fn := fun _ => fun
  | [d1, d2, d3] => { results := [.lit (.bool false)], args := [d1, d2, d3] }
  | _ => none }
def TableReadsWrongFalsely : Prop := tableReadsRow.holds Try.pinned (OpenSpec.ofChange tableReadsWrong)

/- THE SECOND FORM. 'bulk': how many values and letters a reading holds, each counted each time it is reached (what is shared counts as often as it is met; a slice's spare places count too). A statement '..UptoSaid' is the law's where the arguments, and the package variables that the reading takes, are together of bulk at most 1048576: NARROWER than '..Said'. Prove '..Said' where nothing that the law and all that it calls make is longer than what came in: it says more and counts as full. Else prove '..UptoSaid'. A law counts once. -/
mutual
def uptoBulk {H : Type} : DataW H → Nat
  | .lit (.string bytes) => bytes.length + 1
  | .lit _ => 1
  | .nil => 1
  | .ptr d => uptoBulk d + 1
  | .slice elems spare => uptoBulkAll elems + uptoBulkAll spare + 1
  | .agg parts => uptoBulkAll parts + 1
  | .iface _ d => uptoBulk d + 1
  | .map entries => uptoBulkEntries entries + 1
  | .held _ => 1
def uptoBulkAll {H : Type} : List (DataW H) → Nat
  | [] => 0
  | d :: r => uptoBulk d + uptoBulkAll r
def uptoBulkEntries {H : Type} : List (Lit × DataW H) → Nat
  | [] => 0
  | x :: r => uptoBulkEntry x + uptoBulkEntries r
def uptoBulkEntry {H : Type} : Lit × DataW H → Nat
  | (.string bytes, d) => bytes.length + uptoBulk d + 1
  | (_, d) => uptoBulk d + 1
 end
def uptoSmall : (H : Type) → List (DataW H) → Bool := fun _ ds => decide (uptoBulkAll ds ≤ 1048576)
def OpenSpec.upto (s : _root_.Go.ChangeSpec) : _root_.Go.OpenSpec := { _root_.Go.OpenSpec.ofChange s with cond := some uptoSmall }

/-- 'ravelinlaw04.TableMonotone', WHERE WHAT IT READS IS OF BULK AT MOST 1048576: true; the input reads as it did. -/
def tableMonotoneUptoRow : OpenClaim := { program := "ytpmbbkhhnkhcbaa", sum := "fbe44eb32235f8e483a485c2448307225d9602a3b0c8a14b52435022dba85ad3", func := "ravelin/ravelinlaw04.TableMonotone", spec := "tableMonotone", unfollowed := true, recurses := true, plainKeys := false, apart := false, narrowed := true }
def TableMonotoneUptoSaid : Prop := tableMonotoneUptoRow.holds Try.pinned (OpenSpec.upto tableMonotoneSpec)

/-- 'ravelinlaw04.TableLabels', WHERE WHAT IT READS IS OF BULK AT MOST 1048576: true; the input reads as it did. -/
def tableLabelsUptoRow : OpenClaim := { program := "ytpmbbkhhnkhcbaa", sum := "fbe44eb32235f8e483a485c2448307225d9602a3b0c8a14b52435022dba85ad3", func := "ravelin/ravelinlaw04.TableLabels", spec := "tableLabels", plainKeys := false, apart := false, narrowed := true }
def TableLabelsUptoSaid : Prop := tableLabelsUptoRow.holds Try.pinned (OpenSpec.upto tableLabelsSpec)

/-- 'ravelinlaw04.TableNone', WHERE WHAT IT READS IS OF BULK AT MOST 1048576: true; the input reads as it did. -/
def tableNoneUptoRow : OpenClaim := { program := "ytpmbbkhhnkhcbaa", sum := "fbe44eb32235f8e483a485c2448307225d9602a3b0c8a14b52435022dba85ad3", func := "ravelin/ravelinlaw04.TableNone", spec := "tableNone", unfollowed := true, recurses := true, plainKeys := false, apart := false, narrowed := true }
def TableNoneUptoSaid : Prop := tableNoneUptoRow.holds Try.pinned (OpenSpec.upto tableNoneSpec)

/-- 'ravelinlaw04.TableRefuses', WHERE WHAT IT READS IS OF BULK AT MOST 1048576: true; the input reads as it did. -/
def tableRefusesUptoRow : OpenClaim := { program := "ytpmbbkhhnkhcbaa", sum := "fbe44eb32235f8e483a485c2448307225d9602a3b0c8a14b52435022dba85ad3", func := "ravelin/ravelinlaw04.TableRefuses", spec := "tableRefuses", unfollowed := true, recurses := true, plainKeys := false, apart := false, narrowed := true }
def TableRefusesUptoSaid : Prop := tableRefusesUptoRow.holds Try.pinned (OpenSpec.upto tableRefusesSpec)

/-- 'ravelinlaw04.TableReads', WHERE WHAT IT READS IS OF BULK AT MOST 1048576: true; the input reads as it did. -/
def tableReadsUptoRow : OpenClaim := { program := "ytpmbbkhhnkhcbaa", sum := "fbe44eb32235f8e483a485c2448307225d9602a3b0c8a14b52435022dba85ad3", func := "ravelin/ravelinlaw04.TableReads", spec := "tableReads", unfollowed := true, recurses := true, plainKeys := false, apart := false, narrowed := true }
def TableReadsUptoSaid : Prop := tableReadsUptoRow.holds Try.pinned (OpenSpec.upto tableReadsSpec)

end Rows
end Go.Proofs.Ytpmbbkhhnkhcbaa
