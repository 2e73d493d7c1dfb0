/- The contracts of num.Do, of the document's own answer, and of what they call: each answers NumM.doV and NumM.doB. -/
import Derived.Test.YtajcglhmononnaaDoorNumMath
import Derived.Test.YtajcglhmononnaaDoorProg
import Derived.WalkKit
import Derived.WalkSpells
import Derived.WalkLawsBesides
namespace Go.Proofs.YtajcglhmononnaaDoor
open Go.RowKit
namespace NumD
open NumM

theorem ret_int {k : IntKind} {a b : Int} (h : a = b) : Ending.returned (.int k a) = .returned (.int k b) := by rw [h]
theorem ret_ib {k : IntKind} {a b : Int} {x y : Bool} (h : a = b) (g : x = y) : Ending.returned (.tuple #[.int k a, .bool x]) = .returned (.tuple #[.int k b, .bool y]) := by rw [h, g]

set_option maxHeartbeats 400000 in
theorem divide_any (a b : Int) (hb : (b == 0) = false) (w : World) :
    Calls Tryd.prog 30 #[.int .i64 a, .int .i64 b] w fun e w' => e = .returned (.int .i64 (fl a b)) ∧ w = w' := by
  have h0 : ¬b = 0 := by simpa using hb
  clear hb
  go_enter Tryd.func30, Tryd.ntmps30
  go_wp2
  · rename_i h
    go_ret
    exact ⟨ret_int (fl_even h).symm, rfl⟩
  · rename_i h h2
    go_ret
    exact ⟨ret_int (fl_w1 h0 h h2), rfl⟩
  · rename_i h h2
    go_ret
    exact ⟨ret_int (fl_w2 h h2), rfl⟩

set_option maxHeartbeats 400000 in
theorem compare_any (op a b : Int) (w : World) :
    Calls Tryd.prog 31 #[.int .i64 op, .int .i64 a, .int .i64 b] w fun e w' => e = .returned (.int .i64 (cmpV op a b)) ∧ w = w' := by
  go_enter Tryd.func31, Tryd.ntmps31
  go_wp2
  all_goals
    go_ret
    exact ⟨ret_int (by simp only [beq_iff_eq, beq_eq_false_iff_ne, ne_eq] at *; unfold cmpV; (repeat' split) <;> omega), by trivial⟩

theorem doB_true {op b : Int} (h1 : 1 ≤ op) (h2 : op ≤ 8) (h3 : (op = 4 ∨ op = 5) → ¬b = 0) : doB op b = true := by
  unfold doB
  by_cases h : op = 4 ∨ op = 5 <;> simp [h, h1, h2] <;> exact h3 h
theorem doB_false {op b : Int} (h : op < 1 ∨ 8 < op ∨ ((op = 4 ∨ op = 5) ∧ b = 0)) : doB op b = false := by
  unfold doB
  rcases h with h | h | ⟨h, hb⟩
  · simp only [show ¬(1 ≤ op) from by omega, decide_false, Bool.false_and]
  · simp only [show ¬(op ≤ 8) from by omega, decide_false, Bool.false_and, Bool.and_false]
  · simp [h, hb]

set_option maxHeartbeats 1000000 in
theorem do_any (op a b : Int) (w : World) :
    Calls Tryd.prog 25 #[.int .i64 op, .int .i64 a, .int .i64 b] w fun e w' => e = .returned (.tuple #[.int .i64 (doV op a b), .bool (doB op b)]) ∧ w = w' := by
  go_enter Tryd.func25, Tryd.ntmps25
  go_wp2_with (first | (go_at_call 30; refine (divide_any _ _ (by assumption) _).mono ?_; rintro e w' ⟨rfl, rfl⟩) | (go_at_call 31; refine (compare_any _ _ _ _).mono ?_; rintro e w' ⟨rfl, rfl⟩))
  all_goals
    go_ret2
    simp only [beq_iff_eq, beq_eq_false_iff_ne, ne_eq] at *
    exact ⟨ret_ib (by unfold doV; (try unfold cmpV); (repeat' split) <;> first | rfl | omega) (by first | exact (doB_true (by omega) (by omega) (by omega)).symm | exact (doB_false (by omega)).symm), by trivial⟩

end NumD
end Go.Proofs.YtajcglhmononnaaDoor
