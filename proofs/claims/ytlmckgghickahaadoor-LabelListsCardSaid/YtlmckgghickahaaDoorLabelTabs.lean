/- What the rows' lists and the world's shape give the walks of layer 1. -/
import Derived.Test.YtlmckgghickahaaDoorLabelAwake
import Derived.Test.YtlmckgghickahaaDoorTables
import Derived.Test.YtlmckgghickahaaDoorRows
import Derived.LaidMore
namespace Go.Proofs.YtlmckgghickahaaDoor
open Go.RowKit
namespace LabelD
open LabelM

theorem gBru : Tryd.prog.globalNamed "math/bits.deBruijn64tab" = some 0 := by kernel_rfl
theorem tBru : (Tryd.prog.globals[0]?).map (·.type) = some 72 := by kernel_rfl
theorem locBru : (List.range 64).map (Tables.locate Tryd.prog 3 72 (Rows.laid_math_bits_deBruijn64tab (H := Unit))) = (Lib.deBruijn64tab.map fun (k : Nat) => Value.int .u8 (k : Int)).map some := by kernel_rfl
theorem bru_of {W : World} {r : List (String × DataW Unit)} (h : laidMet Tryd.prog (("math/bits.deBruijn64tab", Rows.laid_math_bits_deBruijn64tab) :: r) W) : Bru W := by
  intro j hj
  have c := Tables.cells_of_head 3 (vs := Lib.deBruijn64tab.map fun (k : Nat) => Value.int .u8 (k : Int)) gBru tBru h locBru
  refine c j _ ?_
  rw [List.getElem?_map, List.getElem?_eq_getElem hj]
  simp [List.getD, hj]
theorem gSyn : Tryd.prog.globalNamed "strconv.ErrSyntax" = some 1 := by kernel_rfl
theorem tSyn : (Tryd.prog.globals[1]?).map (·.type) = some 57 := by kernel_rfl
theorem gRng : Tryd.prog.globalNamed "strconv.ErrRange" = some 2 := by kernel_rfl
theorem tRng : (Tryd.prog.globals[2]?).map (·.type) = some 57 := by kernel_rfl
theorem star : "*" ++ "errors.errorString" = "*errors.errorString" := by decide
theorem rowErr (u : TypeId) (h : Tryd.prog.typeName? 3 u = some "*errors.errorString") : u = 108 :=
  typeName_ptr_named (nm := "errors.errorString") (by rw [star]; kernel_rfl) (by kernel_rfl) (by decide) u (by rw [star]; exact h)
theorem cErr : Tryd.prog.cellsOf 110 = 1 := by kernel_rfl
theorem cStr : Tryd.prog.cellsOf 9 = 1 := by kernel_rfl

theorem tabs_of {W : World} (h : laidMetH Tryd.prog Rows.labelJoinsRow.laid W) (hs : W.ShapedOpen Tryd.prog) : Tabs W := by
  have h1 : laidMet Tryd.prog [("math/bits.deBruijn32tab", Rows.laid_math_bits_deBruijn32tab), ("math/bits.deBruijn64tab", Rows.laid_math_bits_deBruijn64tab), ("internal/strconv.uint64pow10", Rows.laid_internal_strconv_uint64pow10),
    ("unicode/utf8.acceptRanges", Rows.laid_unicode_utf8_acceptRanges), ("strconv.ErrRange", Rows.laid_strconv_ErrRange), ("strconv.ErrSyntax", Rows.laid_strconv_ErrSyntax), ("unicode/utf8.first", Rows.laid_unicode_utf8_first)] W := h
  have h2 := h1.tail
  have h5 := h2.tail.tail.tail
  have h6 := h5.tail
  obtain ⟨m, hm⟩ := Tryd.laysM146.s1_3 W hs
  obtain ⟨a0, sa, hva, _, _, _⟩ := laid_sentinel h5 gRng tRng Tryd.underlying57 rowErr Tryd.underlying108 Tryd.underlying110 rfl rfl Tryd.underlying9 cErr cStr
  obtain ⟨b0, sb, hvb, _, _, _⟩ := laid_sentinel h6 gSyn tSyn Tryd.underlying57 rowErr Tryd.underlying108 Tryd.underlying110 rfl rfl Tryd.underlying9 cErr cStr
  have cR : W.cell? ⟨2, 0, none⟩ = some (.iface 108 (.pointer (some a0))) := by simpa using World.var?_cell gRng hva 0
  have cS : W.cell? ⟨1, 0, none⟩ = some (.iface 108 (.pointer (some b0))) := by simpa using World.var?_cell gSyn hvb 0
  have hm' : W.cell? ⟨4, 0, none⟩ = some (.int .i64 m) := hm
  have hlt : 4 < W.heap.size := World.block_lt_of_cell? W _ hm'
  exact ⟨hlt, bru_of h2, ⟨m, hm'⟩, ⟨_, cS, .inr ⟨_, _, rfl⟩⟩, ⟨_, cR, .inr ⟨_, _, rfl⟩⟩⟩

/-- The witness: the world that the program's text lays, one of Go's own tables laid by hand. -/
noncomputable def laidWorld (os : Os) : World :=
  let w0 := World.doorLaid Tryd.prog 72 os
  { w0 with heap := w0.heap.modify 5 fun
    | .cells _ t frozen => .cells (Go.Pinned.utf8FirstZ.map fun (z : Nat) => Value.int .u8 (z : Int)).toArray t frozen
    | o => o }
end LabelD
end Go.Proofs.YtlmckgghickahaaDoor
