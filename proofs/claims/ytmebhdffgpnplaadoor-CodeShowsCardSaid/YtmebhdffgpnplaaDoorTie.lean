/-
  DERIVED. GIVEN WITH THE SEED: THE PROGRAM's TIES (one call each: nine closed facts by the kernel) AND EACH ROW's TIE, after the 31st guide's Derived/Test/Toyas{Tie, Card}.lean. No idea stands in it: it is a product of the set-up. Laid BY PROGRAM, IN A SANDBOX (cutbox-door.mjs). By AI agents, Wed Nov 11 2026. No macro, syntax, notation, axiom, sorry.
-/
import Derived.Test.YtmebhdffgpnplaaDoorRows
import Derived.LaidByTextLater
import Derived.SevenTiedAt
import Derived.LaidSub
import Derived.LaidOnce
namespace Go.Proofs.YtmebhdffgpnplaaDoor
open Go
set_option maxRecDepth 100000
theorem seatTie1 : Tryd.prog.laidByTextLater [("ravelin/instr.lows", Rows.laid_ravelin_instr_lows), ("ravelin/instr.highs", Rows.laid_ravelin_instr_highs), ("ravelin/lex.words", Rows.laid_ravelin_lex_words)] [.data, .data, .data] true :=
  Program.laidByTextLater_by_one 93 8 67 (by kernel_rfl) (by kernel_rfl) (by kernel_rfl) (by kernel_rfl) (by kernel_rfl) (by kernel_rfl) (fun _ _ => by kernel_rfl)
theorem seatTie2 : Tryd.prog.laidByTextLater [("math/bits.deBruijn32tab", Rows.laid_math_bits_deBruijn32tab), ("math/bits.deBruijn64tab", Rows.laid_math_bits_deBruijn64tab), ("internal/strconv.uint64pow10", Rows.laid_internal_strconv_uint64pow10), ("ravelin/instr.lows", Rows.laid_ravelin_instr_lows), ("ravelin/instr.highs", Rows.laid_ravelin_instr_highs), ("ravelin/lex.words", Rows.laid_ravelin_lex_words)] [.data, .data, .data, .data, .data, .data] true :=
  Program.laidByTextLater_by_one 93 8 67 (by kernel_rfl) (by kernel_rfl) (by kernel_rfl) (by kernel_rfl) (by kernel_rfl) (by kernel_rfl) (fun _ _ => by kernel_rfl)
theorem noOwnUnsafe : Tryd.pinned.checked.prog.headLifts.contains "ownunsafe" = false := by kernel_rfl
theorem tie : Tryd.prog.laidByTextLater [("ravelin/instr.lows", Rows.laid_ravelin_instr_lows), ("ravelin/instr.highs", Rows.laid_ravelin_instr_highs), ("ravelin/lex.words", Rows.laid_ravelin_lex_words)] [.data, .data, .data] true :=
  Program.laidByTextLater.sub seatTie1 ["ravelin/instr.lows", "ravelin/instr.highs", "ravelin/lex.words"] (by kernel_rfl) (by kernel_rfl)
theorem codeSame_row_tie : Rows.codeSameRow.laidByTextAt .later Tryd.pinned [.data, .data, .data] true :=
  OpenClaim.laidByTextAt_later rfl rfl tie noOwnUnsafe
theorem tie2 : Tryd.prog.laidByTextLater [("math/bits.deBruijn32tab", Rows.laid_math_bits_deBruijn32tab), ("math/bits.deBruijn64tab", Rows.laid_math_bits_deBruijn64tab), ("internal/strconv.uint64pow10", Rows.laid_internal_strconv_uint64pow10), ("ravelin/instr.lows", Rows.laid_ravelin_instr_lows), ("ravelin/instr.highs", Rows.laid_ravelin_instr_highs), ("ravelin/lex.words", Rows.laid_ravelin_lex_words)] [.data, .data, .data, .data, .data, .data] true :=
  Program.laidByTextLater.sub seatTie2 ["math/bits.deBruijn32tab", "math/bits.deBruijn64tab", "internal/strconv.uint64pow10", "ravelin/instr.lows", "ravelin/instr.highs", "ravelin/lex.words"] (by kernel_rfl) (by kernel_rfl)
theorem codeShows_row_tie : Rows.codeShowsRow.laidByTextAt .later Tryd.pinned [.data, .data, .data, .data, .data, .data] true :=
  OpenClaim.laidByTextAt_later rfl rfl tie2 noOwnUnsafe
theorem codeSameUpto_row_tie : Rows.codeSameUptoRow.laidByTextAt .later Tryd.pinned [.data, .data, .data] true :=
  OpenClaim.laidByTextAt_later rfl rfl tie noOwnUnsafe
theorem codeShowsUpto_row_tie : Rows.codeShowsUptoRow.laidByTextAt .later Tryd.pinned [.data, .data, .data, .data, .data, .data] true :=
  OpenClaim.laidByTextAt_later rfl rfl tie2 noOwnUnsafe
end Go.Proofs.YtmebhdffgpnplaaDoor
