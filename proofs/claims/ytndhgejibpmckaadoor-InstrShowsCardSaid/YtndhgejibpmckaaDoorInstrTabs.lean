/- What the rows' lists give the walks of layer 15. -/
import Derived.Test.YtndhgejibpmckaaDoorInstrLaws
namespace Go.Proofs.YtndhgejibpmckaaDoor
open Go.RowKit
namespace InstrD
open InstrM

theorem flat2 {α : Type} (f g : Nat → α) (n k : Nat) (h : k < n) : ((List.range n).flatMap fun i => [f i, g i])[k * 2]? = some (f k) ∧ ((List.range n).flatMap fun i => [f i, g i])[k * 2 + 1]? = some (g k) := by
  have hl : ∀ m, ((List.range m).flatMap fun i => [f i, g i]).length = m * 2 := by
    intro m
    induction m with
    | zero => rfl
    | succ m ih => rw [List.range_succ, List.flatMap_append, List.length_append, ih]; simp; omega
  induction n with
  | zero => omega
  | succ n ih =>
    rw [List.range_succ, List.flatMap_append]
    by_cases hk : k < n
    · rw [List.getElem?_append_left (by rw [hl]; omega), List.getElem?_append_left (by rw [hl]; omega)]
      exact ih hk
    · obtain rfl : k = n := by omega
      rw [List.getElem?_append_right (by rw [hl]; omega), List.getElem?_append_right (by rw [hl]; omega), hl]
      simp
def strV (l : List UInt8) : Value := .string ⟨l.toArray⟩
def lowV : List Value := (List.range 33).flatMap fun i => [strV (nameL i), strV (formL i)]
def highV : List Value := (List.range 31).flatMap fun i => [strV (if i = 0 then [] else nameL (i + 32)), strV (if i = 0 then [] else formL (i + 32))]
theorem gLow : Tryd.prog.globalNamed "ravelin/instr.lows" = some 0 := by kernel_rfl
theorem gHigh : Tryd.prog.globalNamed "ravelin/instr.highs" = some 1 := by kernel_rfl
theorem tLow : (Tryd.prog.globals[0]?).map (·.type) = some 57 := by kernel_rfl
theorem tHigh : (Tryd.prog.globals[1]?).map (·.type) = some 58 := by kernel_rfl
theorem locLow : (List.range lowV.length).map (Tables.locate Tryd.prog 4 57 (Rows.laid_ravelin_instr_lows (H := Unit))) = lowV.map some := by kernel_rfl
theorem locHigh : (List.range highV.length).map (Tables.locate Tryd.prog 4 58 (Rows.laid_ravelin_instr_highs (H := Unit))) = highV.map some := by kernel_rfl

theorem tabs_mk {W : World} {r1 r2 : List (String × DataW Unit)} (h1 : laidMet Tryd.prog (("ravelin/instr.lows", Rows.laid_ravelin_instr_lows) :: r1) W) (h2 : laidMet Tryd.prog (("ravelin/instr.highs", Rows.laid_ravelin_instr_highs) :: r2) W) : Tabs W := by
  have c1 := Tables.cells_of_head 4 gLow tLow h1 locLow
  have c2 := Tables.cells_of_head 4 gHigh tHigh h2 locHigh
  have a0 := c1 (0 * 2) _ (flat2 _ _ 33 0 (by omega)).1
  have a1 := c2 (0 * 2) _ (flat2 _ _ 31 0 (by omega)).1
  refine ⟨World.block_lt_of_cell? W _ a0, World.block_lt_of_cell? W _ a1, fun k hk => ⟨c1 _ _ (flat2 _ _ 33 k hk).1, c1 _ _ (flat2 _ _ 33 k hk).2⟩, fun k h1 hk => ?_⟩
  have e1 := c2 _ _ (flat2 _ _ 31 k hk).1
  have e2 := c2 _ _ (flat2 _ _ 31 k hk).2
  rw [if_neg (by omega)] at e1 e2
  exact ⟨e1, e2⟩
theorem tabs_of {W : World} (h : laidMetH Tryd.prog Rows.instrWritesRow.laid W) : Tabs W := by
  have h1 : laidMet Tryd.prog [("ravelin/instr.lows", Rows.laid_ravelin_instr_lows), ("ravelin/instr.highs", Rows.laid_ravelin_instr_highs)] W := h
  exact tabs_mk h1 h1.tail
end InstrD
end Go.Proofs.YtndhgejibpmckaaDoor
