/- The contracts of num.Do, of the document's own answer, and of what they call: each answers NumM.doV and NumM.doB. -/
import Derived.Test.YtmdkocegnbcgmaaGreatDoorZ9
import Derived.Test.YtmdkocegnbcgmaaGreatDoorProg
import Derived.WalkKit
import Derived.WalkSpells
import Derived.WalkLawsBesides
namespace Go.Proofs.YtmdkocegnbcgmaaGreatDoor
open Go.RowKit
namespace NumD
open NumM

theorem ret_int {k : IntKind} {a b : Int} (h : a = b) : Ending.returned (.int k a) = .returned (.int k b) := by rw [h]
theorem ret_ib {k : IntKind} {a b : Int} {x y : Bool} (h : a = b) (g : x = y) : Ending.returned (.tuple #[.int k a, .bool x]) = .returned (.tuple #[.int k b, .bool y]) := by rw [h, g]

theorem doB_true {op b : Int} (h1 : 1 ≤ op) (h2 : op ≤ 8) (h3 : (op = 4 ∨ op = 5) → ¬b = 0) : doB op b = true := by
  unfold doB
  by_cases h : op = 4 ∨ op = 5 <;> simp [h, h1, h2] <;> exact h3 h
theorem doB_false {op b : Int} (h : op < 1 ∨ 8 < op ∨ ((op = 4 ∨ op = 5) ∧ b = 0)) : doB op b = false := by
  unfold doB
  rcases h with h | h | ⟨h, hb⟩
  · simp only [show ¬(1 ≤ op) from by omega, decide_false, Bool.false_and]
  · simp only [show ¬(op ≤ 8) from by omega, decide_false, Bool.false_and, Bool.and_false]
  · simp [h, hb]

end NumD
end Go.Proofs.YtmdkocegnbcgmaaGreatDoor
