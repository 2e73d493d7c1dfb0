/- What the rows' lists give the walks of layer 16. -/
import Derived.Test.YtmebhdffgpnplaaDoorTables
import Derived.Test.YtmebhdffgpnplaaDoorRows
import Derived.Test.YtmebhdffgpnplaaDoorInstrShw
import Derived.Test.YtmebhdffgpnplaaDoorTyName
namespace Go.Proofs.YtmebhdffgpnplaaDoor
open Go.RowKit ObjM Go.ChangeShapes Go.Shelf
namespace CodeD
open InstrM InstrD LexD

theorem flat2 {α : Type} (f g : Nat → α) (n k : Nat) (h : k < n) : ((List.range n).flatMap fun i => [f i, g i])[k * 2]? = some (f k) ∧ ((List.range n).flatMap fun i => [f i, g i])[k * 2 + 1]? = some (g k) := by
  have hl : ∀ m, ((List.range m).flatMap fun i => [f i, g i]).length = m * 2 := by
    intro m
    induction m with
    | zero => rfl
    | succ m ih => rw [List.range_succ, List.flatMap_append, List.length_append, ih]; simp; omega
  induction n with
  | zero => omega
  | succ n ih =>
    rw [List.range_succ, List.flatMap_append]
    by_cases hk : k < n
    · rw [List.getElem?_append_left (by rw [hl]; omega), List.getElem?_append_left (by rw [hl]; omega)]
      exact ih hk
    · obtain rfl : k = n := by omega
      rw [List.getElem?_append_right (by rw [hl]; omega), List.getElem?_append_right (by rw [hl]; omega), hl]
      simp
def strV (l : List UInt8) : Value := .string ⟨l.toArray⟩
def lowV : List Value := (List.range 33).flatMap fun i => [strV (nameL i), strV (formL i)]
def highV : List Value := (List.range 31).flatMap fun i => [strV (if i = 0 then [] else nameL (i + 32)), strV (if i = 0 then [] else formL (i + 32))]
theorem gLow : Tryd.prog.globalNamed "ravelin/instr.lows" = some 0 := by kernel_rfl
theorem gHigh : Tryd.prog.globalNamed "ravelin/instr.highs" = some 1 := by kernel_rfl
theorem tLow : (Tryd.prog.globals[0]?).map (·.type) = some 136 := by kernel_rfl
theorem tHigh : (Tryd.prog.globals[1]?).map (·.type) = some 137 := by kernel_rfl
theorem locLow : (List.range lowV.length).map (Tables.locate Tryd.prog 4 136 (Rows.laid_ravelin_instr_lows (H := Unit))) = lowV.map some := by kernel_rfl
theorem locHigh : (List.range highV.length).map (Tables.locate Tryd.prog 4 137 (Rows.laid_ravelin_instr_highs (H := Unit))) = highV.map some := by kernel_rfl

theorem tabs_mk {W : World} {r1 r2 : List (String × DataW Unit)} (h1 : laidMet Tryd.prog (("ravelin/instr.lows", Rows.laid_ravelin_instr_lows) :: r1) W) (h2 : laidMet Tryd.prog (("ravelin/instr.highs", Rows.laid_ravelin_instr_highs) :: r2) W) : Tabs W := by
  have c1 := Tables.cells_of_head 4 gLow tLow h1 locLow
  have c2 := Tables.cells_of_head 4 gHigh tHigh h2 locHigh
  have a0 := c1 (0 * 2) _ (flat2 _ _ 33 0 (by omega)).1
  have a1 := c2 (0 * 2) _ (flat2 _ _ 31 0 (by omega)).1
  refine ⟨World.block_lt_of_cell? W _ a0, World.block_lt_of_cell? W _ a1, fun k hk => ⟨c1 _ _ (flat2 _ _ 33 k hk).1, c1 _ _ (flat2 _ _ 33 k hk).2⟩, fun k h1 hk => ?_⟩
  have e1 := c2 _ _ (flat2 _ _ 31 k hk).1
  have e2 := c2 _ _ (flat2 _ _ 31 k hk).2
  rw [if_neg (by omega)] at e1 e2
  exact ⟨e1, e2⟩
theorem gWords : Tryd.prog.globalNamed "ravelin/lex.words" = some 3 := by kernel_rfl
theorem gWordsType : (Tryd.prog.globals[3]?).map (·.type) = some 155 := by kernel_rfl
theorem words_of {l : List (String × DataW Unit)} {W : World} (h : laidMet Tryd.prog (("ravelin/lex.words", Rows.laid_ravelin_lex_words) :: l) W) : WTab W := by
  have hc := Tables.cells_of_head 4 (vs := WL.map Value.string) gWords gWordsType h (by kernel_rfl)
  have h2 : ∀ (i : Nat) (s : ByteArray), WL[i]? = some s → W.cell? ⟨3, i, none⟩ = some (.string s) := fun i s hs => hc i _ (by rw [List.getElem?_map, hs]; rfl)
  exact ⟨World.block_lt_of_cell? W ⟨3, 0, none⟩ (h2 0 _ rfl), h2⟩
theorem pow_of {W : World} {r : List (String × DataW Unit)} (h : laidMet Tryd.prog (("internal/strconv.uint64pow10", Rows.laid_internal_strconv_uint64pow10) :: r) W) : Pow W :=
  Lib.tabIs_of_head (rest := r) gPow gPowType Tryd.underlying148 Tryd.underlying25 cellsU64 cellsTab h
theorem tabs16 {W : World} (h : laidMet Tryd.prog [("math/bits.deBruijn32tab", Rows.laid_math_bits_deBruijn32tab), ("math/bits.deBruijn64tab", Rows.laid_math_bits_deBruijn64tab), ("internal/strconv.uint64pow10", Rows.laid_internal_strconv_uint64pow10), ("ravelin/instr.lows", Rows.laid_ravelin_instr_lows), ("ravelin/instr.highs", Rows.laid_ravelin_instr_highs), ("ravelin/lex.words", Rows.laid_ravelin_lex_words)] W) : Tabs W ∧ Pow W ∧ WTab W :=
  ⟨tabs_mk h.tail.tail.tail h.tail.tail.tail.tail, pow_of h.tail.tail, words_of h.tail.tail.tail.tail.tail⟩
theorem tabs16s {W : World} (h : laidMet Tryd.prog [("ravelin/instr.lows", Rows.laid_ravelin_instr_lows), ("ravelin/instr.highs", Rows.laid_ravelin_instr_highs), ("ravelin/lex.words", Rows.laid_ravelin_lex_words)] W) : Tabs W ∧ WTab W :=
  ⟨tabs_mk h h.tail, words_of h.tail.tail⟩
end CodeD
end Go.Proofs.YtmebhdffgpnplaaDoor
