/- What the rows' lists and the world's shape give the walks of layer 6. -/
import Derived.Test.YtmdkocegnbcgmaaGreatDoorZ23
import Derived.Test.YtmdkocegnbcgmaaGreatDoorZ46
import Derived.Test.YtmdkocegnbcgmaaGreatDoorRows
import Derived.LaidMore
import Derived.LaidOnce
namespace Go.Proofs.YtmdkocegnbcgmaaGreatDoor
open Go.RowKit
namespace TreeD

theorem gWants : Tryz.prog.globalNamed "ravelin/tree.wants" = some 0 := by kernel_rfl
theorem tWants : (Tryz.prog.globals[0]?).map (·.type) = some 105 := by kernel_rfl
theorem locWants : (List.range 4).map (Tables.locate Tryz.prog 3 105 (Rows.laid_ravelin_tree_wants (H := Unit))) = ([.string ⟨#[]⟩, .string ⟨#[99, 42, 98]⟩, .string ⟨#[]⟩, .string ⟨#[115, 42]⟩] : List Value).map some := by kernel_rfl
theorem tb_of {W : World} (h : laidMet Tryz.prog [("math/bits.deBruijn32tab", Rows.laid_math_bits_deBruijn32tab), ("math/bits.deBruijn64tab", Rows.laid_math_bits_deBruijn64tab), ("internal/strconv.uint64pow10", Rows.laid_internal_strconv_uint64pow10), ("unicode/utf8.acceptRanges", Rows.laid_unicode_utf8_acceptRanges), ("strconv.ErrRange", Rows.laid_strconv_ErrRange), ("strconv.ErrSyntax", Rows.laid_strconv_ErrSyntax), ("unicode.White_Space", Rows.laid_unicode_White_Space), ("strings.asciiSpace", Rows.laid_strings_asciiSpace), ("ravelin/lex.words", Rows.laid_ravelin_lex_words), ("ravelin/tree.wants", Rows.laid_ravelin_tree_wants), ("unicode/utf8.first", Rows.laid_unicode_utf8_first)] W) (hs : W.ShapedOpen Tryz.prog) : Tb W := by
  have h10 := h.tail.tail.tail.tail.tail.tail.tail.tail.tail
  have c := Tables.cells_of_head 3 (vs := [.string ⟨#[]⟩, .string ⟨#[99, 42, 98]⟩, .string ⟨#[]⟩, .string ⟨#[115, 42]⟩]) gWants tWants h10 locWants
  have c1 := c 1 _ rfl
  have c3 := c 3 _ rfl
  obtain ⟨m, hm⟩ := Tryz.laysM219.s1_3 W hs
  have hm' : W.cell? ⟨4, 0, none⟩ = some (.int .i64 m) := hm
  exact ⟨World.block_lt_of_cell? W _ c1, c1, c3, m, hm', World.block_lt_of_cell? W _ hm'⟩

/-- The witness: the world that the program's text lays, one of Go's own tables laid by hand. -/
noncomputable def laidWorld (os : Os) : World :=
  let w0 := World.doorLaid Tryz.prog 106 os
  { w0 with heap := w0.heap.modify 8 fun
    | .cells _ t frozen => .cells (Go.Pinned.utf8FirstZ.map fun (z : Nat) => Value.int .u8 (z : Int)).toArray t frozen
    | o => o }
/-- What a world's variables hold, with 'no place twice' by a set of bits. -/
theorem laidMet_of_bits {P : Program} {w : World} {l : List (String × DataW Unit)} (fuel M : Nat)
    (h : (DataW.laidRun P w fuel (l.map (·.1))).map (fun x => (x.1, nodupBits M x.2 0 && laidRowsB P w x.2)) = some (l, true)) : laidMet P l w := by
  cases hx : DataW.laidRun P w fuel (l.map (·.1)) with
  | none => simp [hx] at h
  | some x =>
    obtain ⟨l', ps⟩ := x
    simp only [hx, Option.map_some, Option.some.injEq, Prod.mk.injEq, Bool.and_eq_true] at h
    obtain ⟨rfl, h1, h2⟩ := h
    exact laidMet_of_run fuel hx (decide_eq_true (nodupBits_sound h1).1) h2
end TreeD
end Go.Proofs.YtmdkocegnbcgmaaGreatDoor
