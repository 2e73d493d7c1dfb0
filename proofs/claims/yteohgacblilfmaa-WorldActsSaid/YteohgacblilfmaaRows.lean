/-
  No cell of these rows narrows 'for every input' (looked for: loops, veiled, ifaces, maps, wideKeys, modest, calm, conditions, laid).
  DERIVED. THE GIVEN ROWS OF THIS SEAT. 3 by the template 'for every input the law returns true; each argument reads behind the call as it read before'; 0 by the template 'total and deterministic' (their statements: YteohgacblilfmaaTotals.lean).
  GIVEN WITH THE SEED: the statements are not yours to turn. If you find one false, say at which input.
  Laid BY PROGRAM, IN A SANDBOX (cutbox-rows.mjs): the forced cells as the released guide's own fill.sh prints them over the translation 29eab7c247ebea68… (all of the seat's roots in one cut). By AI agents, Wed Nov 11 2026. No macro, syntax, notation, axiom, sorry.
-/
import Derived.Test.YteohgacblilfmaaChecked
import GoSem.Claim
import GoSem.ClaimJoined
import GoSem.ClaimMapViews
import Derived.JoinedTies
import Derived.KernelRfl
namespace Go.Proofs.Yteohgacblilfmaa
/- THE CELL 'sum', in the pinned program and in every row, IS THE sha256 OF THE DUMP (.gsa) THAT YteohgacblilfmaaProg.lean LOADS. Nothing in Lean hashes anything: it is a label: what it is worth is what the hold of that sum in a sandbox is worth. -/
noncomputable def Try.pinned : Pinned := { name := "yteohgacblilfmaa", sum := "29eab7c247ebea68b32b3259da1ca3ab56b7efc4cf459ce82b024eb95ed93ea3", checked := Try.checked }
namespace Rows
def none {H : Type} : Left H := { results := [], args := [] }

/-- 'ravelinlaw23.WorldActs': WHATEVER THE INPUT: true; the input reads as it did. -/
def worldActsSpec : ChangeSpec := { name := "worldActs", fn := fun _ => fun
  | [d1, d2, d3] => { results := [.lit (.bool true)], args := [d1, d2, d3] }
  | _ => none }
def worldActsRow : OpenClaim := { program := "yteohgacblilfmaa", sum := "29eab7c247ebea68b32b3259da1ca3ab56b7efc4cf459ce82b024eb95ed93ea3", func := "ravelin/ravelinlaw23.WorldActs", spec := "worldActs", apart := false }
def WorldActsSaid : Prop := worldActsRow.holds Try.pinned (OpenSpec.ofChange worldActsSpec)

/-- ITS FALSE NEIGHBOUR: 'it returns false'. Refute it at one input. -/
def worldActsWrong : ChangeSpec := { name := "worldActs", fn := fun _ => fun
  | [d1, d2, d3] => { results := [.lit (.bool false)], args := [d1, d2, d3] }
  | _ => none }
def WorldActsWrongFalsely : Prop := worldActsRow.holds Try.pinned (OpenSpec.ofChange worldActsWrong)

/-- 'ravelinlaw23.WorldSees': WHATEVER THE INPUT: true; the input reads as it did. -/
def worldSeesSpec : ChangeSpec := { name := "worldSees", fn := fun _ => fun
  | [d1, d2, d3] => { results := [.lit (.bool true)], args := [d1, d2, d3] }
  | _ => none }
def worldSeesRow : OpenClaim := { program := "yteohgacblilfmaa", sum := "29eab7c247ebea68b32b3259da1ca3ab56b7efc4cf459ce82b024eb95ed93ea3", func := "ravelin/ravelinlaw23.WorldSees", spec := "worldSees", apart := false }
def WorldSeesSaid : Prop := worldSeesRow.holds Try.pinned (OpenSpec.ofChange worldSeesSpec)

/-- ITS FALSE NEIGHBOUR: 'it returns false'. Refute it at one input. -/
def worldSeesWrong : ChangeSpec := { name := "worldSees", fn := fun _ => fun
  | [d1, d2, d3] => { results := [.lit (.bool false)], args := [d1, d2, d3] }
  | _ => none }
def WorldSeesWrongFalsely : Prop := worldSeesRow.holds Try.pinned (OpenSpec.ofChange worldSeesWrong)

/-- 'ravelinlaw23.WorldNone': WHATEVER THE INPUT: true; the input reads as it did. -/
def worldNoneSpec : ChangeSpec := { name := "worldNone", fn := fun _ => fun
  | [d] => { results := [.lit (.bool true)], args := [d] }
  | _ => none }
def worldNoneRow : OpenClaim := { program := "yteohgacblilfmaa", sum := "29eab7c247ebea68b32b3259da1ca3ab56b7efc4cf459ce82b024eb95ed93ea3", func := "ravelin/ravelinlaw23.WorldNone", spec := "worldNone", apart := false }
def WorldNoneSaid : Prop := worldNoneRow.holds Try.pinned (OpenSpec.ofChange worldNoneSpec)

/-- ITS FALSE NEIGHBOUR: 'it returns false'. Refute it at one input. -/
def worldNoneWrong : ChangeSpec := { name := "worldNone", fn := fun _ => fun
  | [d] => { results := [.lit (.bool false)], args := [d] }
  | _ => none }
def WorldNoneWrongFalsely : Prop := worldNoneRow.holds Try.pinned (OpenSpec.ofChange worldNoneWrong)

/- THE SECOND FORM. 'bulk': how many values and letters a reading holds, each counted each time it is reached (what is shared counts as often as it is met; a slice's spare places count too). A statement '..UptoSaid' is the law's where the arguments, and the package variables that the reading takes, are together of bulk at most 1048576: NARROWER than '..Said'. Prove '..Said' where nothing that the law and all that it calls make is longer than what came in: it says more and counts as full. Else prove '..UptoSaid'. A law counts once. -/
mutual
def uptoBulk {H : Type} : DataW H → Nat
  | .lit (.string bytes) => bytes.length + 1
  | .lit _ => 1
  | .nil => 1
  | .ptr d => uptoBulk d + 1
  | .slice elems spare => uptoBulkAll elems + uptoBulkAll spare + 1
  | .agg parts => uptoBulkAll parts + 1
  | .iface _ d => uptoBulk d + 1
  | .map entries => uptoBulkEntries entries + 1
  | .held _ => 1
def uptoBulkAll {H : Type} : List (DataW H) → Nat
  | [] => 0
  | d :: r => uptoBulk d + uptoBulkAll r
def uptoBulkEntries {H : Type} : List (Lit × DataW H) → Nat
  | [] => 0
  | x :: r => uptoBulkEntry x + uptoBulkEntries r
def uptoBulkEntry {H : Type} : Lit × DataW H → Nat
  | (.string bytes, d) => bytes.length + uptoBulk d + 1
  | (_, d) => uptoBulk d + 1
 end
def uptoSmall : (H : Type) → List (DataW H) → Bool := fun _ ds => decide (uptoBulkAll ds ≤ 1048576)
def OpenSpec.upto (s : _root_.Go.ChangeSpec) : _root_.Go.OpenSpec := { _root_.Go.OpenSpec.ofChange s with cond := some uptoSmall }

/-- 'ravelinlaw23.WorldActs', WHERE WHAT IT READS IS OF BULK AT MOST 1048576: true; the input reads as it did. -/
def worldActsUptoRow : OpenClaim := { program := "yteohgacblilfmaa", sum := "29eab7c247ebea68b32b3259da1ca3ab56b7efc4cf459ce82b024eb95ed93ea3", func := "ravelin/ravelinlaw23.WorldActs", spec := "worldActs", apart := false, narrowed := true }
def WorldActsUptoSaid : Prop := worldActsUptoRow.holds Try.pinned (OpenSpec.upto worldActsSpec)

/-- 'ravelinlaw23.WorldSees', WHERE WHAT IT READS IS OF BULK AT MOST 1048576: true; the input reads as it did. -/
def worldSeesUptoRow : OpenClaim := { program := "yteohgacblilfmaa", sum := "29eab7c247ebea68b32b3259da1ca3ab56b7efc4cf459ce82b024eb95ed93ea3", func := "ravelin/ravelinlaw23.WorldSees", spec := "worldSees", apart := false, narrowed := true }
def WorldSeesUptoSaid : Prop := worldSeesUptoRow.holds Try.pinned (OpenSpec.upto worldSeesSpec)

/-- 'ravelinlaw23.WorldNone', WHERE WHAT IT READS IS OF BULK AT MOST 1048576: true; the input reads as it did. -/
def worldNoneUptoRow : OpenClaim := { program := "yteohgacblilfmaa", sum := "29eab7c247ebea68b32b3259da1ca3ab56b7efc4cf459ce82b024eb95ed93ea3", func := "ravelin/ravelinlaw23.WorldNone", spec := "worldNone", apart := false, narrowed := true }
def WorldNoneUptoSaid : Prop := worldNoneUptoRow.holds Try.pinned (OpenSpec.upto worldNoneSpec)

end Rows
end Go.Proofs.Yteohgacblilfmaa
