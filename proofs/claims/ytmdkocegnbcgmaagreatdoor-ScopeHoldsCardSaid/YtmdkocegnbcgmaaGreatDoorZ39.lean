/- The contracts of package label's plain functions, and of the document's own. -/
import Derived.Test.YtmdkocegnbcgmaaGreatDoorZ38
import Derived.Test.YtmdkocegnbcgmaaGreatDoorProg
import Derived.WalkSpells
import Derived.WalkLawsBesides
import Derived.Lib.Hide
namespace Go.Proofs.YtmdkocegnbcgmaaGreatDoor
open Go.RowKit
namespace LabelD
open LabelM

theorem ret_int {k : IntKind} {a b : Int} (h : a = b) : Ending.returned (.int k a) = .returned (.int k b) := by rw [h]
theorem ret_bool {a b : Bool} (h : a = b) : Ending.returned (.bool a) = .returned (.bool b) := by rw [h]

/-- Whether the lowest k bits of a are in b. -/
def flowsK (a b k : Nat) : Prop := ∀ i < k, a.testBit i = true → b.testBit i = true
theorem flowsK_no {a b k : Nat} (hx : a.testBit k = true) (hy : b.testBit k = false) : false = flowsB a b := by
  cases h : flowsB a b
  · rfl
  · have := (flows_iff a b).1 h k hx
    rw [hy] at this
    cases this
theorem flowsK_step {a b k : Nat} (H : flowsK a b k) (h : a.testBit k = true → b.testBit k = true) : flowsK a b (k + 1) := fun i hi ht => by
  rcases Nat.lt_succ_iff_lt_or_eq.1 hi with hi | rfl
  · exact H i hi ht
  · exact h ht
end LabelD
end Go.Proofs.YtmdkocegnbcgmaaGreatDoor
