/- What the rows' lists give, layer 9; strings.Join. -/
import Derived.Test.YtmcnoagihnkkcaaDoorTyAw9
import Derived.Test.YtmcnoagihnkkcaaDoorTables
import Derived.Test.YtmcnoagihnkkcaaDoorRows
import Derived.Test.YtmcnoagihnkkcaaDoorShelf
namespace Go.Proofs.YtmcnoagihnkkcaaDoor
open Go.RowKit ObjM Go.ChangeShapes
namespace TyD
open LexD (nameB WTab WL)

theorem gWords : Tryd.prog.globalNamed "ravelin/lex.words" = some 2 := by kernel_rfl
theorem gWordsType : (Tryd.prog.globals[2]?).map (·.type) = some 68 := by kernel_rfl
theorem gKinds : Tryd.prog.globalNamed "ravelin/types.kinds" = some 0 := by kernel_rfl
theorem gKindsType : (Tryd.prog.globals[0]?).map (·.type) = some 40 := by kernel_rfl
theorem words_of {l : List (String × DataW Unit)} {W : World} (h : laidMet Tryd.prog (("ravelin/lex.words", Rows.laid_ravelin_lex_words) :: l) W) : WTab W := by
  have hc := Tables.cells_of_head 4 (vs := WL.map Value.string) gWords gWordsType h (by kernel_rfl)
  have h2 : ∀ (i : Nat) (s : ByteArray), WL[i]? = some s → W.cell? ⟨2, i, none⟩ = some (.string s) := fun i s hs => hc i _ (by rw [List.getElem?_map, hs]; rfl)
  exact ⟨World.block_lt_of_cell? W ⟨2, 0, none⟩ (h2 0 _ rfl), h2⟩
theorem kinds_of {l : List (String × DataW Unit)} {W : World} (h : laidMet Tryd.prog (("ravelin/types.kinds", Rows.laid_ravelin_types_kinds) :: l) W) : KTab W := by
  have hc := Tables.cells_of_head 4 (vs := [.int .i64 127, .int .i64 1, .int .i64 2, .int .i64 4, .int .i64 8, .int .i64 16, .int .i64 64]) gKinds gKindsType h (by kernel_rfl)
  refine ⟨World.block_lt_of_cell? W ⟨0, 0, none⟩ (hc 0 _ rfl), fun q hq => ?_⟩
  have : q = 0 ∨ q = 1 ∨ q = 2 ∨ q = 3 ∨ q = 4 ∨ q = 5 ∨ q = 6 := by omega
  rcases this with rfl | rfl | rfl | rfl | rfl | rfl | rfl
  · exact hc 0 _ rfl
  · exact hc 1 _ rfl
  · exact hc 2 _ rfl
  · exact hc 3 _ rfl
  · exact hc 4 _ rfl
  · exact hc 5 _ rfl
  · exact hc 6 _ rfl
theorem gNames : Tryd.prog.globalNamed "ravelin/types.names" = some 1 := by kernel_rfl
theorem gNamesType : (Tryd.prog.globals[1]?).map (·.type) = some 48 := by kernel_rfl
theorem names_of {l : List (String × DataW Unit)} {W : World} (h : laidMet Tryd.prog (("ravelin/types.names", Rows.laid_ravelin_types_names) :: l) W) : NTab W := by
  have hc := Tables.cells_of_head 4 (vs := [.string (baseName 0), .string (baseName 1), .string (baseName 2), .string (baseName 3), .string (baseName 4), .string (baseName 5), .string (baseName 6)]) gNames gNamesType h (by kernel_rfl)
  refine ⟨World.block_lt_of_cell? W ⟨1, 0, none⟩ (hc 0 _ rfl), fun q hq => ?_⟩
  have : q = 0 ∨ q = 1 ∨ q = 2 ∨ q = 3 ∨ q = 4 ∨ q = 5 ∨ q = 6 := by omega
  rcases this with rfl | rfl | rfl | rfl | rfl | rfl | rfl
  · exact hc 0 _ rfl
  · exact hc 1 _ rfl
  · exact hc 2 _ rfl
  · exact hc 3 _ rfl
  · exact hc 4 _ rfl
  · exact hc 5 _ rfl
  · exact hc 6 _ rfl
structure Tabs9 (W : World) : Prop where
  w : WTab W
  n : NTab W
  k : KTab W
theorem tabs9 {W : World} (h : laidMet Tryd.prog [("ravelin/lex.words", Rows.laid_ravelin_lex_words), ("ravelin/types.names", Rows.laid_ravelin_types_names), ("ravelin/types.kinds", Rows.laid_ravelin_types_kinds)] W) : Tabs9 W := ⟨words_of h, names_of h.tail, kinds_of h.tail.tail⟩
theorem joinC : JoinC := by
  intro v xs sep W hs hl hz
  obtain ⟨av, cap, rfl, hc, hc2, hc3, h1⟩ := hs
  have hz2 : (Lib.join (xs.map (·.data.toList)) sep.data.toList).length ≤ 140737488355328 := by
    have h := hz
    unfold joinB at h
    rwa [mk_size] at h
  rcases h1 with rfl | ⟨g, o, rfl, hg, hcell⟩
  · refine (Tryd.strings_Join_none av cap sep W).mono fun e w' ⟨he, hw⟩ => ⟨?_, hw ▸ Below.refl _ _⟩
    rw [he]
    rfl
  · exact Tryd.strings_Join g o cap xs sep W hcell hg hl hc hz2
end TyD
end Go.Proofs.YtmcnoagihnkkcaaDoor
